package mach

import (
	"slices"
	"testing"
)

// P50 leans on it: by the memory, by registers and by places, of each thread, two are two.
func TestStateDiffers(t *testing.T) {
	m := made(t, "zero 0 a; stop; label a; const 0 1; store 6 0 0; alloc 0", "const 7 1; const 7 2; const 0 1; move 1 0")
	known := [][]int{m.State()}
	for _, n := range []int{0, 0, 0, 0, 2, 0, 1, 1, 1, 1} {
		if m.Run([]int{n}) != 1 {
			t.Fatal(n)
		}
		s := m.State()
		for i, other := range known {
			if slices.Equal(s, other) {
				t.Error(i, "and", len(known), "are one:", s)
			}
		}
		known = append(known, s)
	}
}

// P50 leans on it: marks are aside, and the order of steps that do not touch each other; a copy is the same.
func TestStateIsTheSame(t *testing.T) {
	const loop = "label a; mark 6; goto a"
	m := made(t, loop, loop)
	m.Run([]int{0, 1})
	was := m.State()
	for _, script := range [][]int{{0, 0, 0}, {1, 1, 1}, {1, 0, 0, 1, 1, 0}} {
		c := m.Copy()
		if !slices.Equal(c.State(), was) {
			t.Error("a copy is another one")
		}
		if c.Run(script); !slices.Equal(c.State(), was) || len(c.Marks()) == 0 {
			t.Error(script, c.State(), was)
		}
	}
	clear(was)
	if slices.Equal(m.State(), was) {
		t.Error("what is written into an answer shows")
	}
	var none *Machine
	if none.State() != nil {
		t.Error("a machine that is none has something")
	}
}
