// Package threads: what machines of threads that do ops have in common: how ops are asked for errors, which cells there are at the beginning, and how code of ops becomes that of a thread.
package threads

import (
	"slices"

	"quiescent/api"
)

// greatest number that an op puts.
const greatest = 1000

// Check ops of threads, each by itself: put is the kind that has a number.
func Check(l [][]api.Op, put string, others ...string) error {
	return Each(l, func(ops []api.Op) error {
		for _, x := range ops {
			if err := Shape(x, put, others...); err != nil {
				return err
			}
		}
		return nil
	})
}

// Each thread's ops are handed to ask, in turn, up to the first error; ahead of that there must not be too many of them.
func Each(l [][]api.Op, ask func(ops []api.Op) error) error {
	if !fit(l) {
		return api.ErrBound
	}
	for t, ops := range l {
		if err := ask(ops); err != nil {
			return &api.Fault{At: t, Err: err}
		}
	}
	return nil
}

// Shape of an op: its kind is one of these, and its number is as that kind asks.
func Shape(x api.Op, put string, others ...string) error {
	if x.Kind == put {
		if x.N < 1 || x.N > greatest {
			return api.ErrBound
		}
		return nil
	}
	if x.N != 0 || !slices.Contains(others, x.Kind) {
		return api.ErrShape
	}
	return nil
}

func fit(l [][]api.Op) bool {
	if len(l) < 1 || len(l) > api.MaxThreads {
		return false
	}
	return !slices.ContainsFunc(l, func(ops []api.Op) bool { return len(ops) > api.MaxOps })
}
