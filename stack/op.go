package stack

import (
	"cmp"
	"slices"

	"quiescent/api"
	"quiescent/grace"
	"quiescent/threads"
)

// flavour of grace.
type flavour int

// op of a thread, as code.
func (f flavour) op(x api.Op) ([]api.Instr, error) {
	switch x.Kind {
	case "push":
		return pushNode(x.N)
	case "pop":
		return f.popNode()
	}
	return f.flush()
}

// pushNode: a new one, if there is a cell.
func pushNode(n int) ([]api.Instr, error) {
	l, err := Push("push")
	return threads.New(n, l...), err
}

// popNode within a section, and then retire it. Behind the section the thread rests: else, of api.Counted, others would wait for it up to its own end.
func (f flavour) popNode() ([]api.Instr, error) {
	enter, e1 := grace.Enter(int(f), "in")
	l, e2 := Pop("pop")
	leave, e3 := grace.Leave(int(f), "out")
	rest, e4 := grace.Rest(int(f), "rest")
	return slices.Concat(enter, l, leave, rest, retire()), cmp.Or(e1, e2, e3, e4)
}

// retire what was popped, if there was something, and note it: it is there without a section, as nobody else frees it.
func retire() []api.Instr {
	note := []api.Instr{
		{Op: "load", A: threads.Some, B: node, C: value},
		{Op: "mark", A: threads.Some},
	}
	return threads.Unless(node, slices.Concat(note, threads.Keep(kept))...)
}

// flush waits, also where nothing is retired.
func (f flavour) flush() ([]api.Instr, error) {
	l, err := grace.Wait(int(f), "wait")
	return slices.Concat(l, threads.Empty(kept)), err
}
