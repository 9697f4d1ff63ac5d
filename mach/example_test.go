package mach_test

import (
	"fmt"

	"quiescent/api"
	"quiescent/code"
	"quiescent/mach"
)

// Example is the one that README.md shows.
func Example() {
	l, err := code.Read("const 0 1\nstore 7 0 0\nload 1 7 1\nmark 1\n")
	if err != nil {
		return
	}
	other, err := code.Read("const 0 1\nstore 7 0 1\nload 1 7 0\nmark 1\n")
	if err != nil {
		return
	}
	names := []int{0, 0, 0, 0, 0, 0, 0, 1}
	s := mach.Start{Cells: 1, Init: [][]int{{0, 0}}, Regs: [][]int{names, names}}
	m, err := mach.New(s, [][]api.Instr{l, other})
	if err != nil {
		return
	}
	c := m.Copy()
	n := m.Run([]int{0, 0, 1, 1, 0, 1, 0, 1})
	fmt.Println(n, m.Marks(), m.Faults())
	n = c.Run([]int{0, 0, 2, 2, 1, 1, -1, 0, 1, 0, 1})
	fmt.Println(n, c.Marks(), c.Done(0))
	v, _ := c.Peek(api.Ref{}, 1)
	fmt.Println(v, c.Cells(), c.Step(0))
	// Output:
	// 8 [{0 0} {1 0}] 0
	// 10 [{0 1} {1 1}] true
	// 1 1 quiescent: done
}
