package stack_test

import (
	"errors"
	"fmt"
	"slices"

	"quiescent/api"
	"quiescent/mach"
	"quiescent/stack"
	"quiescent/walk"
)

// Example is the one that README.md shows.
func Example() {
	push := func(n int) api.Op { return api.Op{Kind: "push", N: n} }
	pop, flush := api.Op{Kind: "pop"}, api.Op{Kind: "flush"}
	l := [][]api.Op{{push(1), push(2), pop, flush}, {pop}}
	s, codes, err := stack.Build(api.Fenced, l)
	if err != nil {
		return
	}
	m, err := mach.New(s, codes)
	if err != nil {
		return
	}
	for i := 0; !m.Done(0) || !m.Done(1); i++ {
		m.Run([]int{i})
	}
	fmt.Println(m.Marks(), m.Faults(), m.Cells()-len(s.Init))
	told, err := walk.All(s, codes, api.MaxStates)
	fmt.Println(told.Ends > 0, told.Fault, err)
	_, _, err = stack.Build(api.Fenced, [][]api.Op{{pop}, {push(1001)}})
	var f *api.Fault
	if errors.As(err, &f) {
		fmt.Println(f.At, f.Err)
	}

	up, _ := stack.Push("u")
	down, _ := stack.Pop("d")
	note := []api.Instr{{Op: "mark", A: 3}}
	s = mach.Start{Cells: 2, Init: [][]int{{}, {7}}, Regs: [][]int{{0, 0, 0, 2, 0, 1}}}
	m, err = mach.New(s, [][]api.Instr{slices.Concat(up, down, note)})
	if err != nil {
		return
	}
	m.Run(make([]int, 100))
	fmt.Println(m.Marks())
	// Output:
	// [{0 2}] 0 1
	// true false <nil>
	// 1 quiescent: bound
	// [{0 2}]
}
