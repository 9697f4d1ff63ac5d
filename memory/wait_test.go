package memory

import (
	"testing"

	"quiescent/api"
)

// P20: who stores sees it, nobody else does, until it is drained.
func TestStoresWait(t *testing.T) {
	m := made(t, 2, 3)
	mustStore(t, m, 1, cell(0), 2, 5)
	wantSeen(t, m, 1, cell(0), 2, 5)
	wantSeen(t, m, 0, cell(0), 2, 0)
	wantSeen(t, m, 2, cell(0), 2, 0)
	wantThere(t, m, cell(0), 2, 0)
	wantWaiting(t, m, 0, 1, 0)
	mustDo(t, m.Drain(1))
	for thread := range 3 {
		wantSeen(t, m, thread, cell(0), 2, 5)
	}
	wantThere(t, m, cell(0), 2, 5)
	wantWaiting(t, m, 0, 0, 0)
}

// P20: two that each store, and then load the other one's word, may both find 0.
func TestBothFindNothing(t *testing.T) {
	m := made(t, 1, 2)
	mustStore(t, m, 0, cell(0), 0, 1)
	mustStore(t, m, 1, cell(0), 1, 1)
	wantSeen(t, m, 0, cell(0), 1, 0)
	wantSeen(t, m, 1, cell(0), 0, 0)
	mustDo(t, m.Force())
	wantSeen(t, m, 0, cell(0), 1, 1)
	wantSeen(t, m, 1, cell(0), 0, 1)
}

// P21: the last one that waits, to that word of that cell, of that thread.
func TestLoadTakesLast(t *testing.T) {
	m := made(t, 2, 2)
	for w := range api.Words {
		mustStore(t, m, 0, cell(0), w, 10+w)
	}
	mustStore(t, m, 0, cell(0), 1, 20)
	mustStore(t, m, 0, cell(1), 2, 30)
	mustStore(t, m, 0, cell(0), 1, 0)
	mustStore(t, m, 1, cell(0), 0, 40)
	for w, v := range []int{10, 0, 12, 13} {
		wantSeen(t, m, 0, cell(0), w, v)
	}
	for w, v := range []int{0, 0, 30, 0} {
		wantSeen(t, m, 0, cell(1), w, v)
	}
	for w, v := range []int{40, 0, 0, 0} {
		wantSeen(t, m, 1, cell(0), w, v)
	}
}

// P21: what the cell has, where others have stored since, unless a store of one's own waits.
func TestLoadOfCell(t *testing.T) {
	m := made(t, 1, 2)
	mustStore(t, m, 0, cell(0), 0, 5)
	mustStore(t, m, 1, cell(0), 0, 6)
	mustDo(t, m.Drain(1))
	wantSeen(t, m, 0, cell(0), 0, 5)
	wantSeen(t, m, 1, cell(0), 0, 6)
	mustDo(t, m.Drain(0))
	wantSeen(t, m, 1, cell(0), 0, 5)
}

// P20, P21: in the order of the stores, one a Drain.
func TestDrainInOrder(t *testing.T) {
	m := made(t, 1, 2)
	for round := range 3 {
		ahead := 100 * round
		for i := range api.MaxWaits {
			mustStore(t, m, 0, cell(0), i%2, ahead+i+1)
		}
		for i := range api.MaxWaits {
			wantWaiting(t, m, api.MaxWaits-i, 0)
			mustDo(t, m.Drain(0))
			wantThere(t, m, cell(0), i%2, ahead+i+1)
			wantSeen(t, m, 0, cell(0), i%2, ahead+api.MaxWaits-1+i%2)
		}
		if err := m.Drain(0); err != api.ErrNone {
			t.Error(err)
		}
	}
}

// P21: none waits.
func TestDrainNone(t *testing.T) {
	m := made(t, 1, 2)
	mustStore(t, m, 1, cell(0), 0, 1)
	ahead := *m
	if err := m.Drain(0); err != api.ErrNone || *m != ahead {
		t.Error(err)
	}
	if err := m.Fence(0); err != nil || *m != ahead {
		t.Error(err)
	}
}

// P21: MaxWaits of each thread, and no more.
func TestStoreFull(t *testing.T) {
	m := made(t, 1, api.MaxThreads)
	for thread := range api.MaxThreads {
		for i := range api.MaxWaits {
			mustStore(t, m, thread, cell(0), 0, i)
		}
		wantRefused(t, m, api.ErrFull, map[string]func() (int, error){
			"Store": func() (int, error) { return 0, m.Store(thread, cell(0), 0, 99) },
		})
		wantSeen(t, m, thread, cell(0), 0, api.MaxWaits-1)
	}
	mustDo(t, m.Drain(3))
	mustStore(t, m, 3, cell(0), 0, 99)
	wantSeen(t, m, 3, cell(0), 0, 99)
	if err := m.Store(3, cell(0), 0, 1); err != api.ErrFull {
		t.Error(err)
	}
}

// leftBehind has three stores of thread 0, of which the one in the middle is to a cell that is gone, and given anew.
func leftBehind(t *testing.T) *Memory {
	t.Helper()
	m := made(t, 2, 2)
	mustStore(t, m, 0, cell(0), 0, 1)
	mustStore(t, m, 0, cell(1), 1, 2)
	mustStore(t, m, 0, cell(0), 2, 3)
	mustDo(t, m.Free(1, cell(1)))
	if r, err := m.Alloc(1); r != (api.Ref{Cell: 1, Gen: 1}) || err != nil {
		t.Fatal(r, err)
	}
	return m
}

// wantUntouched asks that nothing of what was left behind came to the cell that is given anew.
func wantUntouched(t *testing.T, m *Memory) {
	t.Helper()
	for w := range api.Words {
		wantThere(t, m, api.Ref{Cell: 1, Gen: 1}, w, 0)
		wantSeen(t, m, 0, api.Ref{Cell: 1, Gen: 1}, w, 0)
	}
}

// P21: a store to what is gone is done with when it is drained, and comes to nobody.
func TestDrainStale(t *testing.T) {
	m := leftBehind(t)
	wantUntouched(t, m)
	if v, err := m.Load(0, cell(1), 1); v != 0 || err != api.ErrStale {
		t.Error(v, err)
	}
	mustDo(t, m.Drain(0))
	if err := m.Drain(0); err != api.ErrStale {
		t.Error(err)
	}
	wantWaiting(t, m, 1, 0)
	wantUntouched(t, m)
	mustDo(t, m.Drain(0))
	wantThere(t, m, cell(0), 2, 3)
	if err := m.Drain(0); err != api.ErrNone {
		t.Error(err)
	}
}

// P21: Fence does all, also behind one that is stale; and one thread's alone.
func TestFence(t *testing.T) {
	m := leftBehind(t)
	mustStore(t, m, 1, cell(0), 3, 4)
	if err := m.Fence(0); err != api.ErrStale {
		t.Error(err)
	}
	wantWaiting(t, m, 0, 1)
	for w, v := range []int{1, 0, 3, 0} {
		wantThere(t, m, cell(0), w, v)
	}
	wantUntouched(t, m)
	mustDo(t, m.Fence(0))
	mustStore(t, m, 0, cell(0), 0, 8)
	mustStore(t, m, 0, cell(0), 0, 9)
	mustDo(t, m.Fence(0))
	wantThere(t, m, cell(0), 0, 9)
	mustDo(t, m.Fence(1))
	wantThere(t, m, cell(0), 3, 4)
}

// P21: Force is a fence of each thread, in their order, also behind one that is stale.
func TestForce(t *testing.T) {
	m := made(t, 2, 3)
	mustDo(t, m.Force())
	for thread := range 3 {
		mustStore(t, m, thread, cell(0), 0, 10+thread)
		mustStore(t, m, thread, cell(0), 1+thread, 20+thread)
	}
	mustDo(t, m.Force())
	wantWaiting(t, m, 0, 0, 0)
	for w, v := range []int{12, 20, 21, 22} {
		wantThere(t, m, cell(0), w, v)
	}
	for stale := range 3 {
		m := made(t, 2, 3)
		for thread := range 3 {
			mustStore(t, m, thread, cell(0), 1+thread, 5)
		}
		mustStore(t, m, stale, cell(1), 0, 1)
		mustStore(t, m, stale, cell(0), 0, 6)
		other := (stale + 1) % 3
		if err := m.Free(other, cell(1)); err != nil {
			t.Fatal(err)
		}
		if err := m.Force(); err != api.ErrStale {
			t.Error(stale, err)
		}
		wantWaiting(t, m, 0, 0, 0)
		for w, v := range []int{6, 5, 5, 5} {
			wantThere(t, m, cell(0), w, v)
		}
	}
}

// Two memories are equal where the same is there and waits, whatever waited ahead of it: states may be held against each other.
func TestEqualWhereTheSameWaits(t *testing.T) {
	a, b := made(t, 1, 2), made(t, 1, 2)
	mustStore(t, a, 0, cell(0), 0, 5)
	mustStore(t, a, 0, cell(0), 0, 6)
	mustDo(t, a.Drain(0))
	mustStore(t, b, 0, cell(0), 0, 6)
	if *a == *b {
		t.Error("the cells are not the same")
	}
	mustStore(t, a, 1, cell(0), 0, 0)
	mustDo(t, a.Drain(1))
	if *a != *b {
		t.Error("the same waits")
	}
}
