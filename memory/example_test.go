package memory_test

import (
	"fmt"

	"quiescent/memory"
)

// Example is the one that README.md shows.
func Example() {
	m, err := memory.New(1, 2)
	if err != nil {
		return
	}
	r, _ := m.Alloc(0)
	m.Store(0, r, 0, 7)
	own, _ := m.Load(0, r, 0)
	other, _ := m.Load(1, r, 0)
	fmt.Println(own, other, m.Waiting(0))
	m.Fence(0)
	other, _ = m.Load(1, r, 0)
	was, _ := m.Cas(1, r, 0, 7, 8)
	now, _ := m.Peek(r, 0)
	fmt.Println(other, was, now, m.Waiting(0))
	// Output:
	// 7 0 1
	// 7 7 8 0
}
