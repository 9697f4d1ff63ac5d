package spin_test

import (
	"fmt"
	"slices"

	"quiescent/api"
	"quiescent/code"
	"quiescent/mach"
	"quiescent/spin"
	"quiescent/walk"
)

// Example is the one that README.md shows.
func Example() {
	one, err := code.Read("load 2 7 1\nadd 2 2 7\nstore 7 2 1\nsame 2 7 first\nmark 2\nlabel first\n")
	if err != nil {
		return
	}
	one, _ = spin.Named("x", one)
	take, _ := spin.Take("t", 7, 0, 0)
	give, _ := spin.Give("g", 7, 0, 0)
	l := slices.Concat(take, one, give)
	names := []int{0, 0, 0, 0, 0, 0, 0, 1}
	s := mach.Start{Cells: 1, Init: [][]int{{}}, Regs: [][]int{names, names}}
	m, err := mach.New(s, [][]api.Instr{l, l})
	if err != nil {
		return
	}
	for i := 0; !m.Done(0) || !m.Done(1); i++ {
		m.Run([]int{i})
	}
	v, _ := m.Peek(api.Ref{}, 1)
	fmt.Println(v, m.Marks(), one[5].To)
	told, err := walk.All(s, [][]api.Instr{l, l}, 1000)
	fmt.Println(told.Ends, told.Fault, err)
	_, err = spin.Take("t", 7, 0, 6)
	fmt.Println(err)
	// Output:
	// 2 [{1 2}] first.x
	// 2 false <nil>
	// quiescent: bound
}
