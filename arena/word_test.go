package arena

import (
	"math"
	"testing"

	"quiescent/api"
)

const lastGen = 1<<26 - 1 // the last one that has words

func wantBoth(t *testing.T, r api.Ref, word int) {
	t.Helper()
	if n, err := Word(r); n != word || err != nil {
		t.Error("Word:", r, "is", n, err, "want", word)
	}
	if back, err := Ref(word); back != r || err != nil {
		t.Error("Ref:", word, "is", back, err, "want", r)
	}
}

// P11: Gen times MaxCells, and Cell, and 1; and back.
func TestWordAndRef(t *testing.T) {
	wantBoth(t, api.Ref{}, 1)
	wantBoth(t, api.Ref{Gen: 1}, 65)
	wantBoth(t, api.Ref{Cell: 1}, 2)
	wantBoth(t, api.Ref{Cell: 63}, 64)
	wantBoth(t, api.Ref{Cell: 63, Gen: 1}, 128)
	wantBoth(t, api.Ref{Cell: 5, Gen: 1000}, 64006)
	wantBoth(t, api.Ref{Cell: 63, Gen: lastGen - 1}, 1<<32-64)
	wantBoth(t, api.Ref{Gen: lastGen}, 1<<32-63)
	wantBoth(t, api.Ref{Cell: 62, Gen: lastGen}, 1<<32-1)
	for word := 1; word < 1000; word++ {
		wantBoth(t, api.Ref{Cell: (word - 1) % 64, Gen: (word - 1) / 64}, word)
	}
}

// P11: refs that are no word.
func TestWordBounds(t *testing.T) {
	for _, r := range []api.Ref{
		{Cell: -1}, {Cell: 64}, {Gen: -1}, {Cell: 64, Gen: -1}, {Cell: -1, Gen: 1},
		{Cell: 63, Gen: lastGen}, {Gen: lastGen + 1}, {Cell: 63, Gen: lastGen + 1},
		{Gen: 1 << 32}, {Gen: 1 << 57}, {Gen: 1 << 58}, {Gen: 1 << 60}, {Gen: math.MaxInt}, // times MaxCells it goes round
		{Gen: math.MinInt}, {Cell: math.MinInt}, {Cell: math.MaxInt}, {Cell: 63, Gen: math.MaxInt},
	} {
		if n, err := Word(r); n != 0 || err != api.ErrBound {
			t.Error(r, n, err)
		}
	}
}

// P11: numbers that are no ref.
func TestRefBounds(t *testing.T) {
	if r, err := Ref(0); r != (api.Ref{}) || err != api.ErrNone {
		t.Error(r, err)
	}
	for _, n := range []int{-1, -64, math.MinInt, 1 << 32, 1<<32 + 1, 1 << 33, math.MaxInt} {
		if r, err := Ref(n); r != (api.Ref{}) || err != api.ErrBound {
			t.Error(n, r, err)
		}
	}
}

// P11: what is allocated has a word, by which it is found again.
func TestWordOfAlloc(t *testing.T) {
	a := filled(t, 3)
	mustFree(t, a, api.Ref{Cell: 2})
	r, err := a.Alloc()
	n, bad := Word(r)
	if n != 67 || err != nil || bad != nil {
		t.Fatal(r, n, err, bad)
	}
	mustStore(t, a, r, 1, 8)
	back, _ := Ref(n)
	wantWord(t, a, back, 1, 8)
}
