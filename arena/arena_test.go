package arena

import (
	"math"
	"testing"

	"quiescent/api"
)

func filled(t *testing.T, cells int) *Arena {
	t.Helper()
	a, err := New(cells)
	if err != nil {
		t.Fatal(cells, err)
	}
	for c := range cells {
		mustAlloc(t, a, api.Ref{Cell: c})
	}
	return a
}

func mustAlloc(t *testing.T, a *Arena, want api.Ref) {
	t.Helper()
	if r, err := a.Alloc(); r != want || err != nil {
		t.Fatal("Alloc:", r, err, "want", want)
	}
}

func mustFree(t *testing.T, a *Arena, r api.Ref) {
	t.Helper()
	if err := a.Free(r); err != nil {
		t.Fatal("Free:", r, err)
	}
}

func mustStore(t *testing.T, a *Arena, r api.Ref, w, v int) {
	t.Helper()
	if err := a.Store(r, w, v); err != nil {
		t.Fatal("Store:", r, w, v, err)
	}
}

func wantWord(t *testing.T, a *Arena, r api.Ref, w, want int) {
	t.Helper()
	if v, err := a.Load(r, w); v != want || err != nil {
		t.Error("Load:", r, w, "is", v, err, "want", want)
	}
}

// wantStale asks all calls of a ref that is no cell which is there; w and v are wrong in some, as ErrStale is told first.
func wantStale(t *testing.T, a *Arena, r api.Ref) {
	t.Helper()
	ahead := *a
	for _, w := range []int{0, api.Words - 1, -1, api.Words} {
		if v, err := a.Load(r, w); v != 0 || err != api.ErrStale {
			t.Error("Load:", r, w, v, err)
		}
		for _, v := range []int{0, 7, -1, 1 << 32} {
			if err := a.Store(r, w, v); err != api.ErrStale {
				t.Error("Store:", r, w, v, err)
			}
		}
	}
	if err := a.Free(r); err != api.ErrStale {
		t.Error("Free:", r, err)
	}
	if *a != ahead {
		t.Error("an error has changed something:", r)
	}
}

// P10: New.
func TestNew(t *testing.T) {
	for _, n := range []int{math.MinInt, -1, 0, api.MaxCells + 1, math.MaxInt} {
		if a, err := New(n); a != nil || err != api.ErrBound {
			t.Error(n, a, err)
		}
	}
	for _, n := range []int{1, 2, api.MaxCells} {
		a, err := New(n)
		if a == nil || err != nil || a.Count() != 0 {
			t.Error(n, a, err)
		}
	}
}

// P10: as many cells as New was told, and each time the least one that is free.
func TestAllocTakesLeast(t *testing.T) {
	for _, n := range []int{1, 3, api.MaxCells} {
		a := filled(t, n)
		ahead := *a
		if r, err := a.Alloc(); r != (api.Ref{}) || err != api.ErrFull || *a != ahead || a.Count() != n {
			t.Error(n, r, err, a.Count())
		}
	}
	a := filled(t, 5)
	for _, c := range []int{3, 1, 4} {
		mustFree(t, a, api.Ref{Cell: c})
	}
	for _, c := range []int{1, 3, 4} {
		mustAlloc(t, a, api.Ref{Cell: c, Gen: 1})
	}
	if r, err := a.Alloc(); r != (api.Ref{}) || err != api.ErrFull {
		t.Error(r, err)
	}
}

// P10: Gen is how often the cell was given before, each cell by itself.
func TestGenCounts(t *testing.T) {
	a := filled(t, 3)
	for gen := range 100 {
		mustFree(t, a, api.Ref{Cell: 1, Gen: gen})
		mustAlloc(t, a, api.Ref{Cell: 1, Gen: gen + 1})
	}
	mustFree(t, a, api.Ref{Cell: 2})
	mustFree(t, a, api.Ref{Cell: 0})
	mustAlloc(t, a, api.Ref{Cell: 0, Gen: 1})
	mustAlloc(t, a, api.Ref{Cell: 2, Gen: 1})
}

// P10: a word that was never stored is 0, also in a cell that was full of others.
func TestWordsBeginAtZero(t *testing.T) {
	a := filled(t, api.MaxCells)
	for gen := range 3 {
		for c := range api.MaxCells {
			r := api.Ref{Cell: c, Gen: gen}
			for w := range api.Words {
				wantWord(t, a, r, w, 0)
				mustStore(t, a, r, w, 9)
			}
			mustFree(t, a, r)
			mustAlloc(t, a, api.Ref{Cell: c, Gen: gen + 1})
		}
	}
}

// P10: each word of each cell is its own.
func TestStoreLoad(t *testing.T) {
	a := filled(t, api.MaxCells)
	for c := range api.MaxCells {
		for w := range api.Words {
			mustStore(t, a, api.Ref{Cell: c}, w, 100*c+w)
		}
	}
	for c := range api.MaxCells {
		for w := range api.Words {
			wantWord(t, a, api.Ref{Cell: c}, w, 100*c+w)
		}
	}
	r := api.Ref{Cell: 1}
	for _, v := range []int{1<<32 - 1, 1 << 31, 1<<31 - 1, 1, 0} {
		mustStore(t, a, r, 0, v)
		wantWord(t, a, r, 0, v)
	}
}

// Check tells what Load and Store would, of any number of values, and changes nothing.
func TestCheck(t *testing.T) {
	a := filled(t, 2)
	mustFree(t, a, api.Ref{})
	mustStore(t, a, api.Ref{Cell: 1}, 3, 5)
	ahead := *a
	for _, c := range []struct {
		cell, w int
		values  []int
		want    error
	}{
		{1, 0, nil, nil}, {1, 3, []int{0}, nil}, {1, 3, []int{1<<32 - 1, 0, 7}, nil},
		{1, -1, nil, api.ErrBound}, {1, api.Words, []int{1}, api.ErrBound},
		{1, 0, []int{-1}, api.ErrBound}, {1, 0, []int{1 << 32}, api.ErrBound},
		{1, 0, []int{1, 2, -1}, api.ErrBound}, {1, 0, []int{1 << 32, 2, 1}, api.ErrBound},
		{0, 0, nil, api.ErrStale}, {0, -1, []int{-1}, api.ErrStale}, {2, 0, []int{1}, api.ErrStale},
	} {
		if err := a.Check(api.Ref{Cell: c.cell}, c.w, c.values...); err != c.want || *a != ahead {
			t.Error(c, err)
		}
	}
	var none *Arena
	if err := none.Check(api.Ref{}, 0); err != api.ErrStale {
		t.Error(err)
	}
}

// P10: numbers that are none of a word, and words that are none of a cell.
func TestBounds(t *testing.T) {
	a := filled(t, 2)
	r := api.Ref{Cell: 1}
	for w := range api.Words {
		mustStore(t, a, r, w, 5+w)
	}
	ahead := *a
	for _, w := range []int{math.MinInt, -1, api.Words, math.MaxInt} {
		if v, err := a.Load(r, w); v != 0 || err != api.ErrBound {
			t.Error("Load:", w, v, err)
		}
		if err := a.Store(r, w, 1); err != api.ErrBound {
			t.Error("Store:", w, err)
		}
	}
	for _, v := range []int{math.MinInt, -1, 1 << 32, 1<<32 + 1, math.MaxInt} {
		for w := range api.Words {
			if err := a.Store(r, w, v); err != api.ErrBound {
				t.Error("Store:", w, v, err)
			}
		}
	}
	if *a != ahead {
		t.Error("an error has changed something")
	}
}

// P10: refs that are no cell which is there.
func TestStale(t *testing.T) {
	a, err := New(4)
	if err != nil {
		t.Fatal(err)
	}
	for c := range 5 {
		for _, gen := range []int{-1, 0, 1} { // none was given yet
			wantStale(t, a, api.Ref{Cell: c, Gen: gen})
		}
	}
	mustAlloc(t, a, api.Ref{})
	mustAlloc(t, a, api.Ref{Cell: 1})
	mustFree(t, a, api.Ref{})
	mustAlloc(t, a, api.Ref{Gen: 1})
	for _, r := range []api.Ref{
		{},                                  // gone, the cell given anew
		{Gen: 2}, {Gen: -1}, {Gen: 1 << 40}, // of no Gen that was given
		{Gen: 1 + 1<<32}, {Gen: 1 + 1<<26},
		{Cell: 2}, {Cell: 3}, // not given yet
		{Cell: 4}, {Cell: 63}, {Cell: 64}, {Cell: 65, Gen: 1}, {Cell: -1}, {Cell: -64},
		{Cell: math.MinInt, Gen: math.MinInt}, {Cell: math.MaxInt, Gen: math.MaxInt},
	} {
		wantStale(t, a, r)
	}
	mustFree(t, a, api.Ref{Gen: 1})
	wantStale(t, a, api.Ref{Gen: 1}) // free, and not given anew
	wantStale(t, a, api.Ref{Gen: 2}) // what it will be
}

// P10: Count.
func TestCount(t *testing.T) {
	a, err := New(3)
	if err != nil {
		t.Fatal(err)
	}
	for n := range 3 {
		if a.Count() != n {
			t.Error(n, a.Count())
		}
		mustAlloc(t, a, api.Ref{Cell: n})
	}
	a.Alloc()
	if a.Count() != 3 {
		t.Error(a.Count())
	}
	mustFree(t, a, api.Ref{Cell: 1})
	a.Free(api.Ref{Cell: 1})
	if a.Count() != 2 {
		t.Error(a.Count())
	}
}

// P10, P2: arenas have nothing in common.
func TestArenasApart(t *testing.T) {
	a, b := filled(t, 2), filled(t, 3)
	mustStore(t, a, api.Ref{}, 0, 5)
	mustStore(t, b, api.Ref{}, 0, 6)
	mustFree(t, b, api.Ref{Cell: 1})
	wantWord(t, a, api.Ref{}, 0, 5)
	wantWord(t, a, api.Ref{Cell: 1}, 0, 0)
	wantWord(t, b, api.Ref{}, 0, 6)
	if a.Count() != 2 || b.Count() != 2 {
		t.Error(a.Count(), b.Count())
	}
}

// P1: what New answers with an error has no cells, and does not panic.
func TestNoArena(t *testing.T) {
	a, _ := New(0)
	if r, err := a.Alloc(); r != (api.Ref{}) || err != api.ErrFull {
		t.Error(r, err)
	}
	v, e1 := a.Load(api.Ref{}, 0)
	if e2, e3 := a.Store(api.Ref{}, 0, 0), a.Free(api.Ref{}); v != 0 || e1 != api.ErrStale || e2 != api.ErrStale || e3 != api.ErrStale {
		t.Error(v, e1, e2, e3)
	}
	if a.Count() != 0 {
		t.Error(a.Count())
	}
}
