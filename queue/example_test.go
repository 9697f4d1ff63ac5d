package queue_test

import (
	"errors"
	"fmt"
	"slices"

	"quiescent/api"
	"quiescent/mach"
	"quiescent/queue"
	"quiescent/walk"
)

// Example is the one that README.md shows.
func Example() {
	put := func(n int) api.Op { return api.Op{Kind: "put", N: n} }
	take := api.Op{Kind: "take"}
	l := [][]api.Op{{put(1), put(2), take}, {put(3), take}}
	s, codes, err := queue.Build(l)
	if err != nil {
		return
	}
	m, err := mach.New(s, codes)
	if err != nil {
		return
	}
	for i := 0; !m.Done(0) || !m.Done(1); i++ {
		m.Run([]int{i})
	}
	fmt.Println(m.Marks(), m.Faults(), m.Cells()-len(s.Init))
	told, err := walk.All(s, codes, api.MaxStates)
	fmt.Println(told.Ends > 0, told.Fault, err)
	_, _, err = queue.Build([][]api.Op{{take}, {put(1001)}})
	var f *api.Fault
	if errors.As(err, &f) {
		fmt.Println(f.At, f.Err)
	}

	behind, _ := queue.Put("p")
	first, _ := queue.Take("t")
	note := []api.Instr{{Op: "mark", A: 3}, {Op: "mark", A: 4}}
	s = mach.Start{Cells: 3, Init: [][]int{{2, 2}, {}, {7}}, Regs: [][]int{{0, 0, 0, 3, 0, 1}}}
	m, err = mach.New(s, [][]api.Instr{slices.Concat(behind, first, note)})
	if err != nil {
		return
	}
	m.Run(make([]int, 100))
	fmt.Println(m.Marks())
	// Output:
	// [{1 1} {0 3}] 0 1
	// true false <nil>
	// 1 quiescent: bound
	// [{0 2} {0 7}]
}
