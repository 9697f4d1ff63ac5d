package memory

import (
	"testing"

	"quiescent/api"
)

// late is a store that waits, in a book.
type late struct {
	r    api.Ref
	w, v int
}

// book is what a memory ought to be: told in another way, by lists that grow, and by the words of the cells that are there.
type book struct {
	words map[api.Ref][api.Words]int
	gens  map[int]int
	waits [][]late
}

func (b *book) drain(t int) error {
	s := b.waits[t][0]
	b.waits[t] = b.waits[t][1:]
	words, there := b.words[s.r]
	if !there {
		return api.ErrStale
	}
	words[s.w] = s.v
	b.words[s.r] = words
	return nil
}

func (b *book) fence(t int) error {
	var stale error
	for len(b.waits[t]) > 0 {
		if b.drain(t) != nil {
			stale = api.ErrStale
		}
	}
	return stale
}

func (b *book) load(t int, r api.Ref, w int) (int, error) {
	words, there := b.words[r]
	if !there {
		return 0, api.ErrStale
	}
	v := words[w]
	for _, s := range b.waits[t] {
		if s.r == r && s.w == w {
			v = s.v
		}
	}
	return v, nil
}

func (b *book) store(t int, r api.Ref, w, v int) error {
	if _, there := b.words[r]; !there {
		return api.ErrStale
	}
	if len(b.waits[t]) == api.MaxWaits {
		return api.ErrFull
	}
	b.waits[t] = append(b.waits[t], late{r, w, v})
	return nil
}

// cas is a swap where any word is taken for the old one.
func (b *book) cas(t int, r api.Ref, w, old, v int, any bool) (int, error) {
	if _, there := b.words[r]; !there || b.fence(t) != nil {
		return 0, api.ErrStale
	}
	words := b.words[r]
	was := words[w]
	if any || was == old {
		words[w] = v
	}
	b.words[r] = words
	return was, nil
}

func (b *book) alloc(cells int) (api.Ref, error) {
	for c := range cells {
		r := api.Ref{Cell: c, Gen: b.gens[c]}
		if _, there := b.words[api.Ref{Cell: c, Gen: r.Gen - 1}]; !there {
			b.gens[c]++
			b.words[r] = [api.Words]int{}
			return r, nil
		}
	}
	return api.Ref{}, api.ErrFull
}

func (b *book) free(t int, r api.Ref) error {
	if _, there := b.words[r]; !there || b.fence(t) != nil {
		return api.ErrStale
	}
	delete(b.words, r)
	return nil
}

// ref is one that was given last, or ahead of it, or comes next, or is none.
func (b *book) ref(next func(n int) int) api.Ref {
	c := next(4)
	return api.Ref{Cell: c, Gen: b.gens[c] - 1 - next(6)/4 + next(9)/8}
}

type answer struct {
	n   int
	err error
}

// both does one call of thread t in the memory and in the book.
func both(m *Memory, b *book, t int, next func(n int) int) (got, want answer) {
	r, w, v, old := b.ref(next), next(api.Words), next(3), next(3)
	switch next(24) {
	case 0, 1:
		r, err := m.Alloc(t)
		q, qErr := b.alloc(3)
		return answer{r.Cell + 10*r.Gen, err}, answer{q.Cell + 10*q.Gen, qErr}
	case 2:
		return answer{0, m.Free(t, r)}, answer{0, b.free(t, r)}
	case 3:
		n, err := m.Swap(t, r, w, v)
		k, kErr := b.cas(t, r, w, old, v, true)
		return answer{n, err}, answer{k, kErr}
	case 4:
		n, err := m.Cas(t, r, w, old, v)
		k, kErr := b.cas(t, r, w, old, v, false)
		return answer{n, err}, answer{k, kErr}
	case 5:
		return answer{0, m.Fence(t)}, answer{0, b.fence(t)}
	case 6, 7, 8, 9:
		if len(b.waits[t]) == 0 {
			return answer{0, m.Drain(t)}, answer{0, api.ErrNone}
		}
		return answer{0, m.Drain(t)}, answer{0, b.drain(t)}
	case 10:
		if next(4) > 0 {
			return
		}
		for t := range b.waits {
			if b.fence(t) != nil {
				want.err = api.ErrStale
			}
		}
		return answer{0, m.Force()}, want
	}
	return answer{0, m.Store(t, r, w, v)}, answer{0, b.store(t, r, w, v)}
}

// hold asks the memory for all that the book knows.
func (b *book) hold(t *testing.T, m *Memory) {
	t.Helper()
	for c, gen := range b.gens {
		for _, r := range []api.Ref{{Cell: c, Gen: gen - 1}, {Cell: c, Gen: gen - 2}} {
			for w := range api.Words {
				for thread := range b.waits {
					v, err := m.Load(thread, r, w)
					if want, wantErr := b.load(thread, r, w); v != want || err != wantErr {
						t.Fatal("Load:", thread, r, w, v, err, want, wantErr)
					}
				}
				words, there := b.words[r]
				if v, err := m.Peek(r, w); v != words[w] || (err == nil) != there {
					t.Fatal("Peek:", r, w, v, err, words)
				}
			}
		}
	}
	for thread, waits := range b.waits {
		if m.Waiting(thread) != len(waits) {
			t.Fatal("Waiting:", thread, m.Waiting(thread), len(waits))
		}
	}
	if m.Count() != len(b.words) {
		t.Fatal("Count:", m.Count(), len(b.words))
	}
}

// P20, P21, P22: whatever is called, by whatever thread, all is as the book has it.
func TestAsTheBookHasIt(t *testing.T) {
	for _, threads := range []int{1, 2, 3} {
		m, err := New(3, threads)
		if err != nil {
			t.Fatal(err)
		}
		b := &book{words: map[api.Ref][api.Words]int{}, gens: map[int]int{}, waits: make([][]late, threads)}
		next := counter(uint32(threads))
		seen := map[error]int{}
		for i := range 4000 {
			got, want := both(m, b, next(threads), next)
			if got != want {
				t.Fatal(threads, i, got, want)
			}
			seen[got.err]++
			b.hold(t, m)
		}
		for _, err := range []error{nil, api.ErrStale, api.ErrFull, api.ErrNone} {
			if seen[err] < 20 {
				t.Error(threads, err, "came too seldom:", seen[err])
			}
		}
	}
}
