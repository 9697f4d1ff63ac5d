package walk_test

import (
	"fmt"

	"quiescent/api"
	"quiescent/code"
	"quiescent/mach"
	"quiescent/walk"
)

// Example is the one that README.md shows.
func Example() {
	writer, err := code.Read("const 0 0\nswap 0 7 0\nfree 0\n")
	if err != nil {
		return
	}
	reader, err := code.Read("load 0 7 0\nzero 0 none\nload 1 0 0\nlabel none\n")
	if err != nil {
		return
	}
	names := []int{0, 0, 0, 0, 0, 0, 0, 1}
	s := mach.Start{Cells: 2, Init: [][]int{{2}, {5}}, Regs: [][]int{names, names}}
	told, err := walk.All(s, [][]api.Instr{writer, reader}, 1000)
	fmt.Println(told.Fault, told.Way, err)
	told, err = walk.All(s, [][]api.Instr{writer[:2], reader}, 1000)
	fmt.Println(told.States, told.Ends, told.Fault, err)
	_, err = walk.All(s, [][]api.Instr{writer, reader}, 10)
	fmt.Println(err)
	// Output:
	// true [0 1 0 0 1 1] <nil>
	// 18 2 false <nil>
	// quiescent: bound
}
