package arena_test

import (
	"fmt"

	"quiescent/arena"
)

// Example is the one that README.md shows.
func Example() {
	a, err := arena.New(2)
	if err != nil {
		return
	}
	r, _ := a.Alloc()
	a.Store(r, 0, 7)
	v, _ := a.Load(r, 0)
	n, _ := arena.Word(r)
	a.Free(r)
	_, err = a.Load(r, 0)
	fmt.Println(v, n, a.Count(), err)
	// Output: 7 1 0 quiescent: stale
}
