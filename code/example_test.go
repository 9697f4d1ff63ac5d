package code_test

import (
	"errors"
	"fmt"

	"quiescent/api"
	"quiescent/code"
)

// Example is the one that README.md shows.
func Example() {
	l := []api.Instr{{Op: "const", A: 0, B: 3}, {Op: "label", To: "again"}, {Op: "mark", A: 0}, {Op: "goto", To: "again"}}
	s, err := code.Text(l)
	if err != nil {
		return
	}
	fmt.Print(s)
	again, _ := code.Read(s)
	fmt.Println(len(again), again[0] == l[0])
	_, err = code.Read("fence\nmark 8\n")
	var f *api.Fault
	if errors.As(err, &f) {
		fmt.Println(f.At, f.Err == api.ErrBound)
	}
	// Output:
	// const 0 3
	// label again
	// mark 0
	// goto again
	// 4 true
	// 1 true
}
