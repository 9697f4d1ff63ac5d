package queue

import (
	"slices"

	"quiescent/api"
	"quiescent/threads"
)

// op of a thread, as code.
func op(x api.Op) ([]api.Instr, error) {
	if x.Kind == "put" {
		l, err := Put("put")
		return threads.New(x.N, l...), err
	}
	l, err := Take("take")
	return slices.Concat(l, note()), err
}

// note what was taken, if there was something, and free the node that is not needed any more.
func note() []api.Instr {
	return threads.Unless(node,
		api.Instr{Op: "mark", A: number},
		api.Instr{Op: "free", A: node},
	)
}
