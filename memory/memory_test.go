package memory

import (
	"math"
	"testing"

	"quiescent/api"
)

// made is a memory with all its cells there, of Gen 0.
func made(t *testing.T, cells, threads int) *Memory {
	t.Helper()
	m, err := New(cells, threads)
	if err != nil {
		t.Fatal(cells, threads, err)
	}
	for c := range cells {
		if r, err := m.Alloc(0); r != cell(c) || err != nil {
			t.Fatal("Alloc:", r, err)
		}
	}
	return m
}

func cell(c int) api.Ref { return api.Ref{Cell: c} }

func mustStore(t *testing.T, m *Memory, thread int, r api.Ref, w, v int) {
	t.Helper()
	if err := m.Store(thread, r, w, v); err != nil {
		t.Fatal("Store:", thread, r, w, v, err)
	}
}

func mustDo(t *testing.T, err error) {
	t.Helper()
	if err != nil {
		t.Fatal(err)
	}
}

// wantSeen asks what a thread loads.
func wantSeen(t *testing.T, m *Memory, thread int, r api.Ref, w, want int) {
	t.Helper()
	if v, err := m.Load(thread, r, w); v != want || err != nil {
		t.Error("Load:", thread, r, w, "is", v, err, "want", want)
	}
}

// wantThere asks what the cell has.
func wantThere(t *testing.T, m *Memory, r api.Ref, w, want int) {
	t.Helper()
	if v, err := m.Peek(r, w); v != want || err != nil {
		t.Error("Peek:", r, w, "is", v, err, "want", want)
	}
}

func wantWaiting(t *testing.T, m *Memory, want ...int) {
	t.Helper()
	for thread, n := range want {
		if m.Waiting(thread) != n {
			t.Error("Waiting:", thread, "is", m.Waiting(thread), "want", n)
		}
	}
}

// wantRefused holds that all is as it was ahead of a call, and that the call answered this error.
func wantRefused(t *testing.T, m *Memory, want error, calls map[string]func() (int, error)) {
	t.Helper()
	ahead := *m
	for name, call := range calls {
		if v, err := call(); v != 0 || err != want {
			t.Error(name, "is", v, err, "want", want)
		}
		if *m != ahead {
			t.Fatal(name, "has changed something")
		}
	}
}

// wordCalls are the calls that name a word, with the same numbers; v is also what cas takes for the old one.
func wordCalls(m *Memory, thread int, r api.Ref, w, v int) map[string]func() (int, error) {
	return map[string]func() (int, error){
		"Store":   func() (int, error) { return 0, m.Store(thread, r, w, v) },
		"Swap":    func() (int, error) { return m.Swap(thread, r, w, v) },
		"Cas":     func() (int, error) { return m.Cas(thread, r, w, v, v) },
		"Cas old": func() (int, error) { return m.Cas(thread, r, w, v, 0) },
		"Cas new": func() (int, error) { return m.Cas(thread, r, w, 0, v) },
	}
}

// readCalls are the calls that name a word, and no value.
func readCalls(m *Memory, thread int, r api.Ref, w int) map[string]func() (int, error) {
	return map[string]func() (int, error){
		"Load": func() (int, error) { return m.Load(thread, r, w) },
		"Peek": func() (int, error) { return m.Peek(r, w) },
	}
}

// P20: New.
func TestNew(t *testing.T) {
	for _, c := range []struct{ cells, threads int }{
		{0, 1}, {-1, 1}, {api.MaxCells + 1, 1}, {math.MinInt, 1}, {math.MaxInt, 1},
		{1, 0}, {1, -1}, {1, api.MaxThreads + 1}, {1, math.MinInt}, {1, math.MaxInt}, {0, 0},
	} {
		if m, err := New(c.cells, c.threads); m != nil || err != api.ErrBound {
			t.Error(c, m, err)
		}
	}
	for _, cells := range []int{1, 3, api.MaxCells} {
		for threads := 1; threads <= api.MaxThreads; threads++ {
			m := made(t, cells, threads)
			if r, err := m.Alloc(0); r != (api.Ref{}) || err != api.ErrFull {
				t.Error(cells, threads, r, err)
			}
			mustStore(t, m, threads-1, cell(cells-1), 0, 1)
			if err := m.Store(threads, cell(0), 0, 1); err != api.ErrBound {
				t.Error(cells, threads, err)
			}
		}
	}
}

// P20: what is no thread is told ahead of all else that is wrong.
func TestNoThread(t *testing.T) {
	m := made(t, 2, 2)
	mustDo(t, m.Free(0, cell(1)))
	mustStore(t, m, 1, cell(0), 0, 5)
	for _, thread := range []int{math.MinInt, -1, 2, api.MaxThreads - 1, api.MaxThreads, math.MaxInt} {
		for _, r := range []api.Ref{cell(0), cell(1), cell(2), cell(-1)} {
			for _, w := range []int{0, -1, api.Words} {
				for _, v := range []int{0, -1, 1 << 32} {
					wantRefused(t, m, api.ErrBound, wordCalls(m, thread, r, w, v))
				}
				load := readCalls(m, thread, r, w)
				delete(load, "Peek")
				wantRefused(t, m, api.ErrBound, load)
			}
			wantRefused(t, m, api.ErrBound, map[string]func() (int, error){
				"Free":  func() (int, error) { return 0, m.Free(thread, r) },
				"Drain": func() (int, error) { return 0, m.Drain(thread) },
				"Fence": func() (int, error) { return 0, m.Fence(thread) },
				"Alloc": func() (int, error) {
					r, err := m.Alloc(thread)
					return r.Cell + r.Gen, err
				},
			})
		}
		if m.Waiting(thread) != 0 {
			t.Error(thread, m.Waiting(thread))
		}
	}
}

// P21, P22: refs that are no cell which is there, told ahead of numbers that are wrong, and of a line that is full.
func TestStale(t *testing.T) {
	m := made(t, 3, 2)
	mustDo(t, m.Free(0, cell(1)))
	mustDo(t, m.Free(1, cell(2)))
	if r, err := m.Alloc(1); r != (api.Ref{Cell: 1, Gen: 1}) || err != nil {
		t.Fatal(r, err)
	}
	for range api.MaxWaits {
		mustStore(t, m, 0, cell(0), 0, 1)
	}
	for _, r := range []api.Ref{cell(1), cell(2), cell(3), cell(-1), {Cell: 1, Gen: 2}, {Gen: 1}, {Gen: -1}, {Cell: math.MaxInt, Gen: math.MinInt}} {
		for _, w := range []int{0, -1, api.Words} {
			wantRefused(t, m, api.ErrStale, readCalls(m, 0, r, w))
			for _, v := range []int{0, -1, 1 << 32} {
				wantRefused(t, m, api.ErrStale, wordCalls(m, 0, r, w, v))
			}
		}
		wantRefused(t, m, api.ErrStale, map[string]func() (int, error){
			"Free": func() (int, error) { return 0, m.Free(0, r) },
		})
	}
	wantWaiting(t, m, api.MaxWaits, 0)
}

// P21, P22: numbers that are none of a word, and words that are none of a cell, told ahead of a line that is full.
func TestBounds(t *testing.T) {
	m := made(t, 2, 2)
	for range api.MaxWaits {
		mustStore(t, m, 0, cell(1), 0, 1)
	}
	for thread := range 2 {
		for _, w := range []int{math.MinInt, -1, api.Words, math.MaxInt} {
			wantRefused(t, m, api.ErrBound, readCalls(m, thread, cell(1), w))
			wantRefused(t, m, api.ErrBound, wordCalls(m, thread, cell(1), w, 0))
		}
		for _, v := range []int{math.MinInt, -1, 1 << 32, 1<<32 + 1, math.MaxInt} {
			for w := range api.Words {
				wantRefused(t, m, api.ErrBound, wordCalls(m, thread, cell(1), w, v))
			}
		}
	}
}

// P20, P2: memories have nothing in common, and a copy is one by itself.
func TestMemoriesApart(t *testing.T) {
	a, b := made(t, 1, 2), made(t, 1, 2)
	mustStore(t, a, 0, cell(0), 0, 5)
	mustStore(t, b, 1, cell(0), 0, 6)
	wantWaiting(t, a, 1, 0)
	wantWaiting(t, b, 0, 1)
	c := *a
	mustStore(t, a, 0, cell(0), 0, 7)
	mustDo(t, a.Fence(0))
	wantWaiting(t, &c, 1, 0)
	wantSeen(t, &c, 0, cell(0), 0, 5)
	wantThere(t, &c, cell(0), 0, 0)
	wantThere(t, a, cell(0), 0, 7)
	wantThere(t, b, cell(0), 0, 0)
}

// P1: what New answers with an error has no thread and no cell, and does not panic.
func TestNoMemory(t *testing.T) {
	m, _ := New(0, 1)
	for name, call := range wordCalls(m, 0, cell(0), 0, 0) {
		if v, err := call(); v != 0 || err != api.ErrBound {
			t.Error(name, v, err)
		}
	}
	for i, err := range []error{m.Drain(0), m.Fence(0), m.Free(0, cell(0))} {
		if err != api.ErrBound {
			t.Error(i, err)
		}
	}
	if r, err := m.Alloc(0); r != (api.Ref{}) || err != api.ErrBound {
		t.Error(r, err)
	}
	if v, err := m.Load(0, cell(0), 0); v != 0 || err != api.ErrBound {
		t.Error(v, err)
	}
	if v, err := m.Peek(cell(0), 0); v != 0 || err != api.ErrStale {
		t.Error(v, err)
	}
	if err := m.Force(); err != nil || m.Waiting(0) != 0 {
		t.Error(err, m.Waiting(0))
	}
}
