package arena

import (
	"slices"
	"testing"

	"quiescent/api"
)

// statesOf arenas of three cells, on each of which one of the calls was made.
func statesOf(t *testing.T, calls []func(a *Arena)) [][]int {
	t.Helper()
	var l [][]int
	for _, call := range calls {
		a, err := New(3)
		if err != nil {
			t.Fatal(err)
		}
		call(a)
		l = append(l, a.State())
	}
	return l
}

// P50 leans on it: by which cells are there, of which Gen, by words and by how often each was given, two are two.
func TestStateDiffers(t *testing.T) {
	first, second := api.Ref{}, api.Ref{Cell: 1}
	l := statesOf(t, []func(a *Arena){
		func(a *Arena) {},
		func(a *Arena) { mustAlloc(t, a, first) },
		func(a *Arena) { mustAlloc(t, a, first); mustFree(t, a, first) },
		func(a *Arena) { mustAlloc(t, a, first); mustFree(t, a, first); mustAlloc(t, a, api.Ref{Gen: 1}) },
		func(a *Arena) { mustAlloc(t, a, first); mustAlloc(t, a, second) },
		func(a *Arena) { mustAlloc(t, a, first); mustAlloc(t, a, second); mustFree(t, a, first) },
		func(a *Arena) { mustAlloc(t, a, first); mustAlloc(t, a, second); mustFree(t, a, second) },
		func(a *Arena) { mustAlloc(t, a, first); mustStore(t, a, first, 0, 1) },
		func(a *Arena) { mustAlloc(t, a, first); mustStore(t, a, first, 3, 1) },
		func(a *Arena) { mustAlloc(t, a, first); mustStore(t, a, first, 3, MaxWord) },
		func(a *Arena) { mustAlloc(t, a, first); mustAlloc(t, a, second); mustStore(t, a, second, 3, 1) },
	})
	for i, s := range l {
		for j := range i {
			if slices.Equal(s, l[j]) {
				t.Error(i, "and", j, "are one:", s)
			}
		}
	}
}

// P50 leans on it: what is not loaded any more is no part of it, and it is new memory.
func TestStateIsTheSame(t *testing.T) {
	a, b := filled(t, 2), filled(t, 2)
	mustStore(t, a, api.Ref{}, 2, 7)
	mustFree(t, a, api.Ref{})
	mustFree(t, b, api.Ref{})
	s := a.State()
	if !slices.Equal(s, b.State()) {
		t.Error(s, b.State())
	}
	clear(s)
	if !slices.Equal(a.State(), b.State()) {
		t.Error("what is written into an answer shows:", a.State())
	}
	var none *Arena
	if none.State() != nil {
		t.Error("an arena that is none has something")
	}
}
