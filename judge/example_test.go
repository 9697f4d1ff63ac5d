package judge_test

import (
	"fmt"

	"quiescent/api"
	"quiescent/code"
	"quiescent/judge"
	"quiescent/mach"
)

// Example is the one that README.md shows.
func Example() {
	reader := []api.Op{{Kind: "enter"}, {Kind: "read"}, {Kind: "leave"}}
	safe := [][]api.Op{reader, {{Kind: "put", N: 5}, {Kind: "wait"}, {Kind: "drop"}}}
	unsafe := [][]api.Op{reader, {{Kind: "put", N: 5}, {Kind: "drop"}}}
	v, err := judge.Client(api.Fenced, safe, api.MaxStates)
	fmt.Println(v.Kind, v.States > 1, v.Way, err)
	v, err = judge.Client(api.Fenced, safe, 10)
	fmt.Println(v, err)
	v, err = judge.Client(api.Fenced, unsafe, api.MaxStates)
	fmt.Println(v.Kind, err)
	is, err := judge.Replay(api.Fenced, unsafe, v.Way)
	fmt.Println(is, err)
	is, err = judge.Replay(api.Fenced, unsafe, v.Way[:len(v.Way)-1])
	fmt.Println(is, err)

	one, err := code.Read("store 6 1 0\nload 0 7 0\n")
	if err != nil {
		return
	}
	s := mach.Start{Cells: 2, Init: [][]int{{}, {}}, Regs: [][]int{{0, 1, 0, 0, 0, 0, 1, 2}, {0, 1, 0, 0, 0, 0, 2, 1}}}
	rows, err := judge.Outcomes(s, [][]api.Instr{one, one}, 0, 1000)
	fmt.Println(rows, err)
	fenced := []api.Instr{one[0], {Op: "fence"}, one[1]}
	rows, err = judge.Outcomes(s, [][]api.Instr{fenced, fenced}, 0, 1000)
	fmt.Println(rows, err)
	// Output:
	// safe true [] <nil>
	// {large 0 []} <nil>
	// fault <nil>
	// true <nil>
	// false <nil>
	// [[0 0] [0 1] [1 0] [1 1]] <nil>
	// [[0 1] [1 0] [1 1]] <nil>
}
