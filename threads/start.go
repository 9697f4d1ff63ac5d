package threads

import (
	"quiescent/api"
	"quiescent/arena"
	"quiescent/grace"
	"quiescent/mach"
)

// Registers of each thread; grace has 0, 1 and 2, too.
const (
	Some = 0 // for what is needed at once
	Node = 3 // names the cell that an op is about
	List = 4 // names the first cell of the thread's list; 0: none
	Root = 5 // names the cell from which all others are found
	own  = 6
	hub  = 7
)

// Value is the word of a node that has its number.
const Value = 0

// link of an own cell to the next one: a word.
const link = 1

// start of a machine, to which cells are added.
type start struct {
	mach.Start
}

// begin with cells of these words: Root names the last one, in all threads.
func begin(threads int, cells [][]int) *start {
	s := &start{mach.Start{Cells: api.MaxCells}}
	for _, words := range cells {
		s.cell(words)
	}
	for range threads {
		row := make([]int, api.Registers)
		row[Root] = s.last()
		s.Regs = append(s.Regs, row)
	}
	return s
}

// grace needs a hub, and a cell of each thread's own.
func (s *start) grace(f int) error {
	words, err := grace.Hub(f)
	if err != nil {
		return err
	}
	s.cell(words)
	first := len(s.Init)
	for _, row := range s.Regs {
		row[hub] = Name(first - 1)
		if words, err = grace.Own(f); err != nil {
			return err
		}
		s.cell(words)
		row[own] = s.last()
	}
	return s.chain(f, first)
}

// chain the own cells, from the hub on, where code does not do it: the first one stands right behind the hub.
func (s *start) chain(f, first int) error {
	word, err := grace.Link(f)
	if err != nil || word < 0 {
		return err
	}
	for cell := first; cell < len(s.Init); cell++ {
		s.Init[cell-1][word] = Name(cell)
		word = link
	}
	return nil
}

// cell that is there, with these words first.
func (s *start) cell(words []int) {
	row := make([]int, api.Words)
	copy(row, words)
	s.Init = append(s.Init, row)
}

// last cell's name; 0, if there is none.
func (s *start) last() int { return Name(len(s.Init) - 1) }

// Name of a cell that is there at the beginning.
func Name(cell int) int {
	n, _ := arena.Word(api.Ref{Cell: cell})
	return n
}
