// Package arena: cells: see ../shared/doc/01-arena.md.
package arena

import "quiescent/api"

// MaxWord is the greatest number that a word holds.
const MaxWord = 1<<32 - 1

// Arena of cells.
type Arena struct {
	size  int
	words [api.MaxCells][api.Words]uint32
	there [api.MaxCells]bool
	given [api.MaxCells]int // counted in int, so that it never goes round: what is gone stays stale
}

// New arena.
func New(cells int) (*Arena, error) {
	if cells < 1 || cells > api.MaxCells {
		return nil, api.ErrBound
	}
	return &Arena{size: cells}, nil
}

// Alloc a cell.
func (a *Arena) Alloc() (api.Ref, error) {
	for cell := range a.cells() {
		if !a.there[cell] {
			return a.give(cell), nil
		}
	}
	return api.Ref{}, api.ErrFull
}

// Free a cell.
func (a *Arena) Free(r api.Ref) error {
	if !a.has(r) {
		return api.ErrStale
	}
	a.there[r.Cell] = false
	return nil
}

// Load a word.
func (a *Arena) Load(r api.Ref, w int) (int, error) {
	if err := a.Check(r, w); err != nil {
		return 0, err
	}
	return int(a.words[r.Cell][w]), nil
}

// Store a word.
func (a *Arena) Store(r api.Ref, w, v int) error {
	if err := a.Check(r, w, v); err != nil {
		return err
	}
	a.words[r.Cell][w] = uint32(v)
	return nil
}

// Check what Load of word w of r would answer, or Store of these values there: it stands by itself for stores that are done later.
func (a *Arena) Check(r api.Ref, w int, values ...int) error {
	if !a.has(r) {
		return api.ErrStale
	}
	if w < 0 || w >= api.Words {
		return api.ErrBound
	}
	for _, v := range values {
		if !isWord(v) {
			return api.ErrBound
		}
	}
	return nil
}

// Count of cells that are there.
func (a *Arena) Count() int {
	n := 0
	for cell := range a.cells() {
		if a.there[cell] {
			n++
		}
	}
	return n
}

// State tells in numbers all that later calls hang on: two arenas of one size are the same where it is. The words of a cell that is gone are left out, as nobody loads them any more.
func (a *Arena) State() []int {
	var l []int
	for cell := range a.cells() {
		l = append(l, a.given[cell])
		if a.given[cell] == 0 { // Alloc takes the least one, so that none behind it was given, either
			break
		}
		l = append(l, a.wordsOf(cell)...)
	}
	return l
}

// wordsOf a cell, how many there are ahead of them: none, if it is gone.
func (a *Arena) wordsOf(cell int) []int {
	if !a.there[cell] {
		return []int{0}
	}
	l := []int{api.Words}
	for _, v := range a.words[cell] {
		l = append(l, int(v))
	}
	return l
}

// cells is how many the arena has: none if it is nil, which New answers with an error and no call may panic on.
func (a *Arena) cells() int {
	if a == nil {
		return 0
	}
	return a.size
}

func (a *Arena) give(cell int) api.Ref {
	r := api.Ref{Cell: cell, Gen: a.given[cell]}
	a.words[cell] = [api.Words]uint32{}
	a.there[cell] = true
	a.given[cell]++
	return r
}

func (a *Arena) has(r api.Ref) bool {
	if r.Cell < 0 || r.Cell >= a.cells() || !a.there[r.Cell] {
		return false
	}
	return r.Gen == a.given[r.Cell]-1
}

func isWord(n int) bool { return n >= 0 && n <= MaxWord }
