package client_test

import (
	"errors"
	"fmt"

	"quiescent/api"
	"quiescent/client"
	"quiescent/mach"
	"quiescent/walk"
)

// Example is the one that README.md shows.
func Example() {
	reader := []api.Op{{Kind: "enter"}, {Kind: "read"}, {Kind: "leave"}}
	writer := []api.Op{{Kind: "put", N: 5}, {Kind: "wait"}, {Kind: "drop"}}
	l := [][]api.Op{reader, writer}
	safe, err := client.Safe(l)
	fmt.Println(safe, err)
	s, codes, err := client.Build(api.Fenced, l)
	if err != nil {
		return
	}
	m, err := mach.New(s, codes)
	if err != nil {
		return
	}
	for i := 0; !m.Done(0) || !m.Done(1); i++ {
		m.Run([]int{i})
	}
	fmt.Println(m.Marks(), m.Faults(), m.Cells() == len(s.Init))
	told, err := walk.All(s, codes, api.MaxStates)
	fmt.Println(told.Ends > 0, told.Fault, err)
	l[1] = []api.Op{{Kind: "put", N: 5}, {Kind: "drop"}}
	safe, err = client.Safe(l)
	fmt.Println(safe, err)
	s, codes, err = client.Build(api.Fenced, l)
	if err != nil {
		return
	}
	told, err = walk.All(s, codes, api.MaxStates)
	fmt.Println(told.Fault, err)
	l[1] = []api.Op{{Kind: "drop"}}
	err = client.Check(l)
	var f *api.Fault
	if errors.As(err, &f) {
		fmt.Println(f.At, f.Err == api.ErrNone)
	}
	// Output:
	// true <nil>
	// [{0 5}] 0 true
	// true false <nil>
	// false <nil>
	// true <nil>
	// 1 true
}
