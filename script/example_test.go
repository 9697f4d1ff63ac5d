package script_test

import (
	"errors"
	"fmt"

	"quiescent/api"
	"quiescent/script"
)

// Example is the one that README.md shows.
func Example() {
	codes := []string{"alloc 0\nconst 1 9\nstore 0 1 2\nmark 1\n", "const 0 1\nload 1 0 2\nneed 1\n"}
	lines := []string{"run 0 0 0 1 1", "reg 1 1", "step 1", "faults", "drain 0", "step 0", "marks", "done 1", "step 1", "jump", "reset", "cells", "walk 1000"}
	answers, err := script.Run(codes, lines)
	if err != nil {
		return
	}
	for i, line := range lines {
		fmt.Println(line, "->", answers[i])
	}
	_, err = script.Run([]string{"fence\n", "mark 8\n"}, lines)
	var f *api.Fault
	if errors.As(err, &f) {
		fmt.Println(f.At, f.Err)
	}
	// Output:
	// run 0 0 0 1 1 -> 5
	// reg 1 1 -> 0
	// step 1 -> ok
	// faults -> 1
	// drain 0 -> ok
	// step 0 -> ok
	// marks -> 0:9
	// done 1 -> yes
	// step 1 -> quiescent: done
	// jump -> quiescent: text
	// reset -> ok
	// cells -> 0
	// walk 1000 -> fault 1 1
	// 1 quiescent: bound
}
