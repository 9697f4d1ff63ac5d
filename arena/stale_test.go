package arena

import (
	"testing"

	"quiescent/api"
)

// book is what an arena ought to be: told in another way, by all refs that were ever given.
type book struct {
	cells int
	given []api.Ref
	words map[api.Ref][api.Words]int // of those that are there
}

func (b *book) alloc() (api.Ref, bool) {
	for c := range b.cells {
		gen, held := 0, false
		for _, r := range b.given {
			if r.Cell == c {
				_, there := b.words[r]
				gen, held = gen+1, held || there
			}
		}
		if !held {
			r := api.Ref{Cell: c, Gen: gen}
			b.given = append(b.given, r)
			b.words[r] = [api.Words]int{}
			return r, true
		}
	}
	return api.Ref{}, false
}

// hold asks the arena for all that was ever given: what is there has its words, what is gone is stale.
func (b *book) hold(t *testing.T, a *Arena) {
	t.Helper()
	for _, r := range b.given {
		words, there := b.words[r]
		if !there {
			wantStale(t, a, r)
			continue
		}
		for w, v := range words {
			wantWord(t, a, r, w, v)
		}
	}
	if a.Count() != len(b.words) {
		t.Error("Count:", a.Count(), "want", len(b.words))
	}
}

// P12: whatever is called: what is gone stays stale. The numbers are those of a short rule, so that each run is the same.
func TestGoneStaysStale(t *testing.T) {
	seed := uint32(1)
	next := func(n int) int {
		seed = seed*1664525 + 1013904223
		return int(seed>>16) % n
	}
	for _, cells := range []int{1, 2, 5} {
		a, _ := New(cells)
		b := &book{cells: cells, words: map[api.Ref][api.Words]int{}}
		for range 400 {
			switch next(3) {
			case 0:
				want, ok := b.alloc()
				if r, err := a.Alloc(); r != want || (err == nil) != ok || !ok && err != api.ErrFull {
					t.Fatal(r, err, want)
				}
			case 1:
				r := api.Ref{Cell: next(cells), Gen: next(60)}
				_, there := b.words[r]
				delete(b.words, r)
				if err := a.Free(r); (err == nil) != there || !there && err != api.ErrStale {
					t.Fatal(r, err)
				}
			case 2:
				b.change(a, next)
			}
			b.hold(t, a)
		}
	}
}

// change stores into the cells that are there, or frees one of them.
func (b *book) change(a *Arena, next func(int) int) {
	for _, r := range b.given {
		words, there := b.words[r]
		if !there {
			continue
		}
		if next(4) == 0 {
			delete(b.words, r)
			a.Free(r)
			return
		}
		w, v := next(api.Words), next(1<<15)
		words[w] = v
		b.words[r] = words
		a.Store(r, w, v)
	}
}

// P12: however often the cell is given anew, also where Gen is behind what a byte or two could count.
func TestStaleBehindManyGens(t *testing.T) {
	a := filled(t, 1)
	const most = 70000
	for gen := range most {
		mustFree(t, a, api.Ref{Gen: gen})
		mustAlloc(t, a, api.Ref{Gen: gen + 1})
	}
	mustStore(t, a, api.Ref{Gen: most}, 0, 3)
	for _, gen := range []int{0, 1, most % 256, most % 65536, 65536, most - 1, most + 1} {
		wantStale(t, a, api.Ref{Gen: gen})
	}
	wantWord(t, a, api.Ref{Gen: most}, 0, 3)
}
