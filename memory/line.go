package memory

import "quiescent/api"

// store of a word that waits: its cell is named with its Gen, so that it comes to no cell that is given anew.
type store struct {
	cell        api.Ref
	word, value int
}

// line of one thread's stores that wait, the first one ahead. Behind its length all is zero, so that two lines are equal where the same waits.
type line struct {
	stores [api.MaxWaits]store
	length int
}

func (l *line) full() bool { return l.length == len(l.stores) }

func (l *line) add(s store) {
	l.stores[l.length] = s
	l.length++
}

func (l *line) take() store {
	first := l.stores[0]
	copy(l.stores[:], l.stores[1:l.length])
	l.length--
	l.stores[l.length] = store{}
	return first
}

// last tells the value of the last store to that word that waits, if there is one.
func (l *line) last(cell api.Ref, word int) (int, bool) {
	for i := l.length - 1; i >= 0; i-- {
		if s := l.stores[i]; s.cell == cell && s.word == word {
			return s.value, true
		}
	}
	return 0, false
}

// state is how many wait, and then each of them.
func (l *line) state() []int {
	n := []int{l.length}
	for _, s := range l.stores[:l.length] {
		n = append(n, s.cell.Cell, s.cell.Gen, s.word, s.value)
	}
	return n
}
