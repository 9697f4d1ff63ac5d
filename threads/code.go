package threads

import (
	"slices"
	"strconv"

	"quiescent/api"
	"quiescent/grace"
	"quiescent/mach"
	"quiescent/spin"
)

// Build a machine of threads with grace. By op the code of each of their ops is made; its labels are kept apart from those of others; behind the last one a thread is gone, and stops. Root names the last one of these cells.
func Build(f int, l [][]api.Op, op func(x api.Op) ([]api.Instr, error), cells ...[]int) (mach.Start, [][]api.Instr, error) {
	s := begin(len(l), cells)
	if err := s.grace(f); err != nil {
		return mach.Start{}, nil, err
	}
	gone, err := grace.Gone(f, "gone")
	if err != nil {
		return mach.Start{}, nil, err
	}
	return s.with(l, op, gone)
}

// Bare is as Build, but without grace: its registers are 0, and a thread stops right behind its last op.
func Bare(l [][]api.Op, op func(x api.Op) ([]api.Instr, error), cells ...[]int) (mach.Start, [][]api.Instr, error) {
	return begin(len(l), cells).with(l, op, nil)
}

// with threads of these ops, each of which comes to last then, and stops.
func (s *start) with(l [][]api.Op, op func(x api.Op) ([]api.Instr, error), last []api.Instr) (mach.Start, [][]api.Instr, error) {
	var codes [][]api.Instr
	for _, ops := range l {
		code, err := codeOf(ops, op)
		if err != nil {
			return mach.Start{}, nil, err
		}
		codes = append(codes, slices.Concat(code, last, []api.Instr{{Op: "stop"}}))
	}
	return s.Start, codes, nil
}

// codeOf ops, one behind the other. The number of each op stands behind its labels.
func codeOf(ops []api.Op, op func(x api.Op) ([]api.Instr, error)) ([]api.Instr, error) {
	var l []api.Instr
	for i, x := range ops {
		code, err := op(x)
		if err != nil {
			return nil, err
		}
		if code, err = spin.Named(strconv.Itoa(i), code); err != nil {
			return nil, err
		}
		l = append(l, code...)
	}
	return l, nil
}

// Unless a register is 0, this code is done.
func Unless(register int, l ...api.Instr) []api.Instr {
	return slices.Concat([]api.Instr{{Op: "zero", A: register, To: "none"}}, l, []api.Instr{{Op: "label", To: "none"}})
}

// New node, which Node names: it has this number, and then that code is done. If there is no cell, Node is 0, and nothing else is done.
func New(n int, l ...api.Instr) []api.Instr {
	number := []api.Instr{
		{Op: "const", A: Some, B: n},
		{Op: "store", A: Node, B: Some, C: Value},
	}
	alloc := []api.Instr{{Op: "alloc", A: Node}}
	return append(alloc, Unless(Node, append(number, l...)...)...)
}

// Keep what Node names on the list: that word links it.
func Keep(word int) []api.Instr {
	return []api.Instr{
		{Op: "store", A: Node, B: List, C: word},
		{Op: "move", A: List, B: Node},
	}
}

// Empty the list: all on it is freed.
func Empty(word int) []api.Instr {
	more := []api.Instr{{Op: "label", To: "more"}}
	return append(more, Unless(List,
		api.Instr{Op: "load", A: Some, B: List, C: word},
		api.Instr{Op: "free", A: List},
		api.Instr{Op: "move", A: List, B: Some},
		api.Instr{Op: "goto", To: "more"},
	)...)
}
