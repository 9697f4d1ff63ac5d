package memory

import (
	"slices"
	"testing"

	"quiescent/api"
)

// P50 leans on it: by the cells, and by what waits, of whom and in which order, two are two.
func TestStateDiffers(t *testing.T) {
	var l [][]int
	for _, calls := range []func(m *Memory){
		func(m *Memory) {},
		func(m *Memory) { mustStore(t, m, 0, cell(0), 0, 0) },
		func(m *Memory) { mustStore(t, m, 0, cell(0), 0, 1) },
		func(m *Memory) { mustStore(t, m, 0, cell(0), 0, 1<<32-1) },
		func(m *Memory) { mustStore(t, m, 0, cell(0), 1, 1) },
		func(m *Memory) { mustStore(t, m, 0, cell(1), 0, 1) },
		func(m *Memory) { mustStore(t, m, 1, cell(0), 0, 1) },
		func(m *Memory) { mustStore(t, m, 0, cell(0), 0, 1); mustDo(t, m.Fence(0)) },
		func(m *Memory) { mustStore(t, m, 0, cell(0), 0, 1); mustStore(t, m, 0, cell(0), 0, 1) },
		func(m *Memory) { mustStore(t, m, 0, cell(0), 0, 1); mustStore(t, m, 0, cell(0), 1, 1) },
		func(m *Memory) { mustStore(t, m, 0, cell(0), 1, 1); mustStore(t, m, 0, cell(0), 0, 1) },
		func(m *Memory) { mustStore(t, m, 0, cell(0), 0, 1); mustStore(t, m, 1, cell(0), 0, 1) },
		func(m *Memory) { again(t, m) },
		func(m *Memory) { mustStore(t, m, 0, cell(1), 0, 1); again(t, m) },
		func(m *Memory) { again(t, m); mustStore(t, m, 0, api.Ref{Cell: 1, Gen: 1}, 0, 1) },
	} {
		m := made(t, 2, 2)
		calls(m)
		l = append(l, m.State())
	}
	for i, s := range l {
		for j := range i {
			if slices.Equal(s, l[j]) {
				t.Error(i, "and", j, "are one:", s)
			}
		}
	}
}

// again gives cell 1 anew.
func again(t *testing.T, m *Memory) {
	t.Helper()
	mustDo(t, m.Free(1, cell(1)))
	if r, err := m.Alloc(1); r != (api.Ref{Cell: 1, Gen: 1}) || err != nil {
		t.Fatal(r, err)
	}
}

// P50 leans on it: the way to it is no part of it.
func TestStateIsTheSame(t *testing.T) {
	a, b := made(t, 1, 2), made(t, 1, 2)
	for v := range 3 {
		mustStore(t, a, 0, cell(0), 2, v)
		mustDo(t, a.Drain(0))
	}
	if _, err := b.Swap(1, cell(0), 2, 2); err != nil {
		t.Fatal(err)
	}
	if !slices.Equal(a.State(), b.State()) {
		t.Error(a.State(), b.State())
	}
	var none *Memory
	if none.State() != nil {
		t.Error("a memory that is none has something")
	}
}
