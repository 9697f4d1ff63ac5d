package mach

import (
	"errors"
	"slices"

	"quiescent/api"
	"quiescent/arena"
	"quiescent/code"
)

// program of a thread: its code, and where its labels are set.
type program struct {
	code   []api.Instr
	labels map[string]int
}

// programsOf codes: copies, as what is handed over may change later.
func programsOf(codes [][]api.Instr) ([]program, error) {
	var programs []program
	for i, l := range codes {
		if err := code.Check(l); err != nil {
			return nil, &api.Fault{At: i, Err: Bare(err)}
		}
		programs = append(programs, program{code: slices.Clone(l), labels: code.Labels(l)})
	}
	return programs, nil
}

// Bare error, without the place that it may have.
func Bare(err error) error {
	var f *api.Fault
	if errors.As(err, &f) && f != nil {
		return f.Err
	}
	return err
}

// fits tells if there is room for all numbers of the start, and each is a word.
func (s Start) fits(threads int) bool {
	return rowsFit(s.Init, s.Cells, api.Words) && rowsFit(s.Regs, threads, api.Registers)
}

func rowsFit(rows [][]int, most, longest int) bool {
	if len(rows) > most {
		return false
	}
	for _, row := range rows {
		if len(row) > longest || !allWords(row) {
			return false
		}
	}
	return true
}

func allWords(row []int) bool {
	for _, n := range row {
		if n < 0 || n > arena.MaxWord {
			return false
		}
	}
	return true
}

// fill an empty machine with a start that fits.
func (m *Machine) fill(s Start) {
	for _, words := range s.Init {
		r, _ := m.Alloc(0)
		for w, v := range words {
			m.Swap(0, r, w, v) // not Store: nothing waits at the beginning
		}
	}
	for t, registers := range s.Regs {
		copy(m.threads[t].registers[:], registers)
	}
}
