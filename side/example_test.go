package side_test

import (
	"errors"
	"fmt"

	"quiescent/api"
	"quiescent/code"
	"quiescent/mach"
	"quiescent/side"
)

// Example is the one that README.md shows.
func Example() {
	one, err := code.Read("const 0 1\nswap 0 7 0\nmark 0\n")
	if err != nil {
		return
	}
	names := []int{0, 0, 0, 0, 0, 0, 0, 1}
	s := mach.Start{Cells: 1, Init: [][]int{{}}, Regs: [][]int{names, names}}
	scripts := [][]int{{0, 0, 0, 1, 1, 1}, {1, 1, 1, 0, 0, 0}, {0, 3}}
	seen, err := side.Runs(s, [][]api.Instr{one, one}, scripts, 2)
	if err != nil {
		return
	}
	for _, x := range seen {
		fmt.Println(x.Marks, x.Faults, x.Steps, x.Cells, x.Done)
	}

	reader := []api.Op{{Kind: "enter"}, {Kind: "read"}, {Kind: "leave"}}
	l := [][]api.Op{reader, {{Kind: "put", N: 5}, {Kind: "wait"}, {Kind: "drop"}}}
	fs := []int{api.Fenced, api.Forced, api.Counted, api.Joined}
	verdicts, err := side.Judge(fs, l, api.MaxStates, len(fs))
	for _, v := range verdicts {
		fmt.Println(v.Kind, v.States > 1, err)
	}
	_, err = side.Judge([]int{api.Fenced, 5}, l, 100, 1)
	var f *api.Fault
	if errors.As(err, &f) {
		fmt.Println(f.At, f.Err)
	}
	_, err = side.Runs(s, nil, scripts, api.Workers+1)
	fmt.Println(err)
	// Output:
	// [{0 0} {1 1}] 0 6 1 true
	// [{1 0} {0 1}] 0 6 1 true
	// [] 0 1 1 false
	// safe true <nil>
	// safe true <nil>
	// safe true <nil>
	// safe true <nil>
	// 1 quiescent: bound
	// quiescent: shape
}
