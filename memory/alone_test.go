package memory

import (
	"testing"

	"quiescent/api"
	"quiescent/arena"
)

// counter gives numbers below n by a short rule, so that each run is the same.
func counter(seed uint32) func(n int) int {
	return func(n int) int {
		seed = seed*1664525 + 1013904223
		return int(seed>>16) % n
	}
}

// alone is one thread of a memory, beside cells to which its stores come at once.
type alone struct {
	t    *testing.T
	m    *Memory
	bare *arena.Arena
	me   int
	next func(n int) int
	gens [4]int // the last one of each cell, a cell more than there are
}

// word is one that was stored, or nearly so: that a Cas finds its old one often enough.
func (a *alone) word() int { return a.next(3) }

// ref of a cell, at times of one that is gone, or not there yet.
func (a *alone) ref() api.Ref {
	c := a.next(len(a.gens))
	gen := a.gens[c]
	if a.next(8) == 0 {
		gen += a.next(3) - 1
	}
	return api.Ref{Cell: c, Gen: gen}
}

func (a *alone) same(name string, v int, err error, want int, wantErr error) {
	a.t.Helper()
	if v != want || err != wantErr {
		a.t.Fatal(name, "is", v, err, "want", want, wantErr)
	}
}

func (a *alone) store(r api.Ref, w, v int) {
	if a.m.Waiting(a.me) == api.MaxWaits { // the one thing by which a thread sees that they wait
		a.m.Drain(a.me)
	}
	a.same("Store", 0, a.m.Store(a.me, r, w, v), 0, a.bare.Store(r, w, v))
}

func (a *alone) cas(r api.Ref, w, old, v int) {
	got, err := a.m.Cas(a.me, r, w, old, v)
	was, bare := a.bare.Load(r, w)
	if bare == nil && was == old {
		bare = a.bare.Store(r, w, v)
	}
	a.same("Cas", got, err, was, bare)
}

func (a *alone) swap(r api.Ref, w, v int) {
	got, err := a.m.Swap(a.me, r, w, v)
	was, bare := a.bare.Load(r, w)
	if bare == nil {
		bare = a.bare.Store(r, w, v)
	}
	a.same("Swap", got, err, was, bare)
}

func (a *alone) alloc() {
	r, err := a.m.Alloc(a.me)
	want, bare := a.bare.Alloc()
	a.same("Alloc", r.Cell+100*r.Gen, err, want.Cell+100*want.Gen, bare)
	if err == nil {
		a.gens[r.Cell] = r.Gen
	}
}

func (a *alone) step() {
	r, w := a.ref(), a.next(api.Words)
	switch a.next(40) {
	case 0, 7:
		a.alloc()
	case 1:
		a.same("Free", 0, a.m.Free(a.me, r), 0, a.bare.Free(r))
	case 2:
		a.swap(r, w, a.word())
	case 3:
		a.cas(r, w, a.word(), a.word())
	case 4:
		a.same("Fence", 0, a.m.Fence(a.me), 0, nil)
	case 5:
		a.same("Force", 0, a.m.Force(), 0, nil)
	case 6:
		a.m.Drain(a.me)
	default:
		a.store(r, w, a.word())
	}
	a.same("Count", a.m.Count(), nil, a.bare.Count(), nil)
}

// P23: whatever one thread calls, and whenever its stores are drained, it loads what it would if nothing waited.
func TestAloneNothingWaits(t *testing.T) {
	for me := range 3 {
		m, err := New(3, 3)
		bare, bareErr := arena.New(3)
		if err != nil || bareErr != nil {
			t.Fatal(err, bareErr)
		}
		a := &alone{t: t, m: m, bare: bare, me: me, next: counter(uint32(me))}
		waited := 0
		for range 3000 {
			a.step()
			waited = max(waited, m.Waiting(me))
			for c, gen := range a.gens {
				r := api.Ref{Cell: c, Gen: gen}
				for w := range api.Words {
					v, err := m.Load(me, r, w)
					want, bare := bare.Load(r, w)
					a.same("Load", v, err, want, bare)
				}
			}
		}
		if waited != api.MaxWaits {
			t.Error("as many waited as", waited)
		}
	}
}
