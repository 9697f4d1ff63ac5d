package grace_test

import (
	"fmt"
	"slices"

	"quiescent/api"
	"quiescent/code"
	"quiescent/grace"
	"quiescent/mach"
	"quiescent/walk"
)

// Example is the one that README.md shows.
func Example() {
	find, err := code.Read("load 3 5 0\nload 4 3 0\nneed 4\n")
	if err != nil {
		return
	}
	change, err := code.Read("alloc 3\nconst 4 7\nstore 3 4 0\nswap 3 5 0\n")
	if err != nil {
		return
	}
	free := []api.Instr{{Op: "free", A: 3}}
	f := api.Fenced
	enter, _ := grace.Enter(f, "e")
	leave, _ := grace.Leave(f, "l")
	wait, _ := grace.Wait(f, "w")
	gone, _ := grace.Gone(f, "g")
	reader := slices.Concat(enter, find, leave, gone)
	writer := slices.Concat(change, wait, free, gone)
	hub, _ := grace.Hub(f)
	first, _ := grace.Own(f)
	last, _ := grace.Own(f)
	if n, _ := grace.Link(f); n >= 0 {
		hub[n], first[1] = 2, 3
	}
	s := mach.Start{Cells: 6, Init: [][]int{hub, first, last, {5}, {1}}, Regs: [][]int{{0, 0, 0, 0, 0, 4, 2, 1}, {0, 0, 0, 0, 0, 4, 3, 1}}}
	told, err := walk.All(s, [][]api.Instr{reader, writer}, api.MaxStates)
	fmt.Println(told.Ends > 0, told.Fault, err)
	told, err = walk.All(s, [][]api.Instr{reader, slices.Concat(change, free)}, api.MaxStates)
	fmt.Println(told.Fault, err)
	// Output:
	// true false <nil>
	// true <nil>
}
