package mach

import (
	"slices"
	"strings"
	"testing"

	"quiescent/api"
)

// none are ways to make register 0 name no cell, or one that is gone, of a machine that has one cell more, named by 7.
func none() map[string]string {
	return map[string]string{
		"nothing":           "const 0 0",
		"not there yet":     "const 0 3",
		"no cell of it":     "const 0 5",
		"the last of all":   "const 0 4294967295",
		"of the next Gen":   "const 0 65",
		"gone":              "move 0 6; free 6",
		"gone, given again": "move 0 6; free 6; alloc 2",
	}
}

// P41: what names no cell, or one that is gone, is one fault; its register becomes 0, and nothing else is done.
func TestNoCell(t *testing.T) {
	for name, ahead := range none() {
		for s, zero := range map[string]int{"load 1 0 0": 1, "swap 1 0 0": 1, "cas 0 1 0": 1, "store 0 1 0": -1, "free 0": -1, "load 0 0 0": 0, "swap 0 0 3": 0, "cas 0 0 3": 0} {
			m := made(t, ahead+"; const 1 9; const 3 8; store 7 3 0; "+s+"; load 4 7 0; mark 4")
			for m.threads[0].place != strings.Count(ahead, ";")+4 {
				steps(t, m, 0, 1)
			}
			was := m.threads[0].registers
			if zero >= 0 {
				was[zero] = 0
			}
			cells := m.Cells()
			steps(t, m, 0, 1)
			t.Log(name, s)
			wantFaults(t, m, 1)
			wantWaiting(t, m, 1)
			wantWord(t, m, 1, 0, 20)
			if m.threads[0].registers != was || m.Cells() != cells {
				t.Error(m.threads[0].registers, was, m.Cells(), cells)
			}
			finish(t, m, 0)
			wantMarks(t, m, Mark{N: 8})
			wantFaults(t, m, 1)
		}
	}
}

// P41: need finds 0, each time.
func TestNeed(t *testing.T) {
	m := made(t, "need 0; need 6; need 1; need 7; const 0 4294967295; need 0; mark 0", "need 0")
	finish(t, m, 0)
	wantFaults(t, m, 2)
	wantMarks(t, m, Mark{N: 4294967295})
	finish(t, m, 1)
	wantFaults(t, m, 3)
}

// eight stores of a thread to the cell that register 6 names, then more.
func eight(more string) string {
	return strings.Repeat("store 6 7 0; ", api.MaxWaits) + more
}

// P41: a store where MaxWaits wait drains the first one, and waits then.
func TestStoreWhereFull(t *testing.T) {
	m := made(t, "const 0 1; store 6 0 0; "+eight("const 0 3; store 6 0 1; load 1 6 1"), "stop")
	steps(t, m, 0, 1+api.MaxWaits)
	wantWaiting(t, m, api.MaxWaits, 0)
	wantWord(t, m, 0, 0, 10)
	steps(t, m, 0, 1)
	wantWaiting(t, m, api.MaxWaits, 0)
	wantWord(t, m, 0, 0, 1)
	steps(t, m, 0, 3)
	wantWord(t, m, 0, 0, 2)
	wantWord(t, m, 0, 1, 11)
	wantReg(t, m, 0, 1, 3)
	wantWaiting(t, m, api.MaxWaits, 0)
	for range api.MaxWaits {
		if err := m.Drain(0); err != nil {
			t.Error(err)
		}
	}
	wantWord(t, m, 0, 1, 3)
	wantFaults(t, m, 0)
}

// P41: a store that names no cell, or one that is gone, drains nothing, also where MaxWaits wait.
func TestNoCellWhereFull(t *testing.T) {
	for name, n := range map[string]int{"nothing": 0, "not there yet": 3, "gone": 2} {
		m := made(t, eight("store 0 7 0; mark 7"), "free 7")
		m.threads[0].registers[0] = n
		steps(t, m, 1, 1)
		steps(t, m, 0, api.MaxWaits+1)
		t.Log(name)
		wantWaiting(t, m, api.MaxWaits, 0)
		wantWord(t, m, 0, 0, 10)
		wantFaults(t, m, 1)
		finish(t, m, 0)
		wantMarks(t, m, Mark{N: 2})
	}
}

// P41: the first store of a full line finds its cell gone: that is a fault, and the new one waits all the same.
func TestStaleWhereFull(t *testing.T) {
	m := made(t, "store 7 7 0; "+strings.Repeat("store 6 7 0; ", api.MaxWaits), "free 7")
	steps(t, m, 0, api.MaxWaits)
	steps(t, m, 1, 1)
	wantFaults(t, m, 0)
	steps(t, m, 0, 1)
	wantFaults(t, m, 1)
	wantWaiting(t, m, api.MaxWaits, 0)
	wantWord(t, m, 0, 0, 10)
}

// stale is a machine in which three stores of thread 0 wait, of which two come to a cell that is gone, and is given anew.
func stale(t *testing.T, next string) *Machine {
	t.Helper()
	m := made(t, "const 0 5; store 7 0 0; store 6 0 3; store 7 0 1; "+next, "free 7; alloc 0", "force")
	steps(t, m, 0, 4)
	steps(t, m, 1, 2)
	wantWaiting(t, m, 3, 0, 0)
	wantFaults(t, m, 0)
	return m
}

// wantOld holds that what was left behind came to nobody.
func wantOld(t *testing.T, m *Machine) {
	t.Helper()
	for w := range api.Words {
		if v, err := m.Peek(api.Ref{Cell: 1, Gen: 1}, w); v != 0 || err != nil {
			t.Error("the new cell's word:", w, v, err)
		}
	}
	wantWord(t, m, 0, 3, 5)
}

// P41: each store that is drained and finds its cell gone is a fault, and what else the instruction does is done all the same.
func TestStaleFences(t *testing.T) {
	for s, want := range map[string][3]int{ // registers 0 and 1, and word 0 of the cell that 6 names
		"fence": {5, 0, 10}, "force": {5, 0, 10}, "swap 0 6 0": {10, 0, 5}, "cas 6 0 0": {10, 0, 10}, "swap 1 6 1": {5, 11, 10}, "cas 6 1 0": {5, 10, 10},
	} {
		m := stale(t, s)
		steps(t, m, 0, 1)
		t.Log(s)
		wantFaults(t, m, 2)
		wantWaiting(t, m, 0, 0, 0)
		wantOld(t, m)
		wantReg(t, m, 0, 0, want[0])
		wantReg(t, m, 0, 1, want[1])
		wantWord(t, m, 0, 0, want[2])
	}
	m := stale(t, "cas 6 0 0")
	m.threads[0].registers[0], m.threads[0].registers[1] = 10, 8
	steps(t, m, 0, 1)
	wantFaults(t, m, 2)
	wantWord(t, m, 0, 0, 8)
	m = stale(t, "fence")
	steps(t, m, 2, 1)
	wantFaults(t, m, 2)
	wantWaiting(t, m, 0, 0, 0)
}

// P41: free, too, where its fence finds a cell gone.
func TestStaleFree(t *testing.T) {
	m := stale(t, "free 6; load 1 6 0")
	steps(t, m, 0, 1)
	wantFaults(t, m, 2)
	if m.Cells() != 1 {
		t.Error(m.Cells())
	}
	steps(t, m, 0, 1)
	wantFaults(t, m, 3)
}

// P41: Drain of a store whose cell is gone is a fault, and no error.
func TestStaleDrain(t *testing.T) {
	m := stale(t, "")
	for _, want := range []int{1, 1, 2} {
		if err := m.Drain(0); err != nil {
			t.Error(err)
		}
		wantFaults(t, m, want)
	}
	if err := m.Drain(0); err != api.ErrNone {
		t.Error(err)
	}
	wantFaults(t, m, 2)
	wantOld(t, m)
	if n := stale(t, "").Run([]int{3, 3, 3, 3}); n != 3 {
		t.Error("Run counts a fault as an error:", n)
	}
}

// P41: a thread's own stores to a cell that it frees come ahead of that.
func TestFreeOwn(t *testing.T) {
	m := made(t, "store 7 6 0; store 7 6 1; free 7; free 7; free 7")
	steps(t, m, 0, 3)
	wantFaults(t, m, 0)
	steps(t, m, 0, 2)
	wantFaults(t, m, 2)
	if m.Cells() != 1 || m.Marks() != nil {
		t.Error(m.Cells(), m.Marks())
	}
}

// P44: faults are counted without end, and what is done stays possible.
func TestManyFaults(t *testing.T) {
	m := made(t, "label a; need 0; load 1 0 0; store 0 1 0; swap 2 0 0; cas 0 2 0; free 0; goto a", "mark 6")
	if n := m.Run(slices.Repeat([]int{0}, api.MaxSteps)); n != api.MaxSteps {
		t.Error(n)
	}
	wantFaults(t, m, api.MaxSteps/8*6)
	finish(t, m, 1)
	wantMarks(t, m, Mark{Thread: 1, N: 1})
}
