package memory

import (
	"testing"

	"quiescent/api"
)

// P22: Swap tells what is there, behind all stores of one's own, and is seen by all at once.
func TestSwap(t *testing.T) {
	m := made(t, 2, 2)
	mustStore(t, m, 0, cell(0), 1, 5)
	mustStore(t, m, 0, cell(1), 0, 6)
	mustStore(t, m, 1, cell(0), 1, 7)
	if v, err := m.Swap(0, cell(0), 1, 1<<32-1); v != 5 || err != nil {
		t.Error(v, err)
	}
	wantWaiting(t, m, 0, 1)
	wantThere(t, m, cell(0), 1, 1<<32-1)
	wantThere(t, m, cell(1), 0, 6)
	wantSeen(t, m, 1, cell(0), 1, 7)
	if v, err := m.Swap(1, cell(0), 1, 0); v != 7 || err != nil {
		t.Error(v, err)
	}
	for w, v := range []int{0, 0, 0, 0} {
		wantThere(t, m, cell(0), w, v)
	}
}

// P22: Cas does so only if what is there is the old one; it tells it and fences in any case.
func TestCas(t *testing.T) {
	m := made(t, 2, 2)
	mustStore(t, m, 0, cell(0), 3, 5)
	mustStore(t, m, 1, cell(1), 0, 6)
	if v, err := m.Cas(0, cell(0), 3, 0, 9); v != 5 || err != nil { // 0 is there no more: the fence is first
		t.Error(v, err)
	}
	wantWaiting(t, m, 0, 1)
	wantThere(t, m, cell(0), 3, 5)
	if v, err := m.Cas(0, cell(0), 3, 5, 1<<32-1); v != 5 || err != nil {
		t.Error(v, err)
	}
	wantThere(t, m, cell(0), 3, 1<<32-1)
	if v, err := m.Cas(1, cell(0), 3, 1<<32-1, 2); v != 1<<32-1 || err != nil {
		t.Error(v, err)
	}
	wantThere(t, m, cell(0), 3, 2)
	wantThere(t, m, cell(1), 0, 6)
	wantWaiting(t, m, 0, 0)
	if v, err := m.Cas(1, cell(0), 3, 2, 2); v != 2 || err != nil {
		t.Error(v, err)
	}
	wantThere(t, m, cell(0), 3, 2)
}

// P22: where the fence finds a store that is stale, all of it is done, and nothing else.
func TestFenceFirst(t *testing.T) {
	calls := map[string]func(m *Memory) (int, error){
		"Swap": func(m *Memory) (int, error) { return m.Swap(0, cell(0), 0, 9) },
		"Cas":  func(m *Memory) (int, error) { return m.Cas(0, cell(0), 0, 1, 9) },
		"Free": func(m *Memory) (int, error) { return 0, m.Free(0, cell(0)) },
	}
	for name, call := range calls {
		m := leftBehind(t)
		if v, err := call(m); v != 0 || err != api.ErrStale {
			t.Error(name, v, err)
		}
		wantWaiting(t, m, 0, 0)
		wantUntouched(t, m)
		for w, v := range []int{1, 0, 3, 0} {
			wantThere(t, m, cell(0), w, v)
		}
		if _, err := call(m); err != nil { // nothing waits any more
			t.Error(name, err)
		}
	}
}

// P22: Alloc is the arena's, and no fence.
func TestAlloc(t *testing.T) {
	m, err := New(3, 2)
	if err != nil {
		t.Fatal(err)
	}
	for c := range 3 {
		if r, err := m.Alloc(c % 2); r != cell(c) || err != nil {
			t.Error(r, err)
		}
		mustStore(t, m, 0, cell(c), 0, 5)
	}
	wantWaiting(t, m, 3, 0)
	wantRefused(t, m, api.ErrFull, map[string]func() (int, error){
		"Alloc": func() (int, error) {
			r, err := m.Alloc(0)
			return r.Cell + r.Gen, err
		},
	})
	mustDo(t, m.Fence(0))
	mustDo(t, m.Free(0, cell(2)))
	mustDo(t, m.Free(1, cell(1)))
	for _, c := range []int{1, 2} {
		r, err := m.Alloc(1)
		if r != (api.Ref{Cell: c, Gen: 1}) || err != nil {
			t.Error(r, err)
		}
		wantThere(t, m, r, 0, 0)
	}
}

// P22: Free is behind one's own stores, also those to the cell itself; those of others are left behind.
func TestFree(t *testing.T) {
	m := made(t, 2, 2)
	mustStore(t, m, 0, cell(0), 0, 1)
	mustStore(t, m, 0, cell(1), 0, 2)
	mustStore(t, m, 1, cell(0), 0, 3)
	mustStore(t, m, 1, cell(1), 1, 4)
	mustDo(t, m.Free(0, cell(0)))
	wantWaiting(t, m, 0, 2)
	wantThere(t, m, cell(1), 0, 2)
	if v, err := m.Peek(cell(0), 0); v != 0 || err != api.ErrStale {
		t.Error(v, err)
	}
	if m.Count() != 1 {
		t.Error(m.Count())
	}
	if err := m.Fence(1); err != api.ErrStale {
		t.Error(err)
	}
	wantThere(t, m, cell(1), 1, 4)
	if err := m.Free(1, cell(0)); err != api.ErrStale {
		t.Error(err)
	}
}

// P22: Peek is what the cell has, whatever waits.
func TestPeek(t *testing.T) {
	m := made(t, 1, 1)
	mustStore(t, m, 0, cell(0), 3, 1<<32-1)
	wantThere(t, m, cell(0), 3, 0)
	mustDo(t, m.Drain(0))
	wantThere(t, m, cell(0), 3, 1<<32-1)
	mustStore(t, m, 0, cell(0), 3, 1)
	wantThere(t, m, cell(0), 3, 1<<32-1)
}
