package script

import (
	"slices"
	"strconv"
	"strings"
	"testing"

	"quiescent/api"
)

// P130: a step of a thread; a fault is no error.
func TestStep(t *testing.T) {
	wantTalk(t, textsOf("const 1 7; need 0", "stop", ""),
		"reg 0 1 = 0", "step 0 = ok", "reg 0 1 = 7", "step 0 = ok", "faults = 1", "step 0 = quiescent: done", "faults = 1",
		"step 1 = quiescent: done", "step 2 = quiescent: done", "step 3 = quiescent: bound", "step 6 = quiescent: bound", "step 99999 = quiescent: bound")
}

// P130: a drain of a thread, also of one that is done; a store whose cell is gone is a fault, no error.
func TestDrain(t *testing.T) {
	wantTalk(t, textsOf("alloc 0; store 0 0 2; store 0 0 3", "const 1 1; load 2 1 2; load 2 1 3; free 1"),
		"run 0 0 0 1 1 = 5", "reg 1 2 = 0", "drain 1 = quiescent: none", "drain 0 = ok", "step 0 = quiescent: done", "run 1 = 1",
		"step 1 = ok", "cells = 0", "faults = 0", "drain 0 = ok", "faults = 1", "drain 0 = quiescent: none", "faults = 1", "drain 2 = quiescent: bound", "drain 99999 = quiescent: bound")
	wantTalk(t, textsOf("alloc 0; store 0 0 2", "const 1 1; load 2 1 2"), "run 0 0 1 = 3", "drain 0 = ok", "step 1 = ok", "reg 1 2 = 1")
}

// P130: a run of numbers goes around at twice the threads; those that have an error are not counted.
func TestRunOfNumbers(t *testing.T) {
	codes := textsOf("alloc 0; store 0 0 0; mark 0", "mark 0; mark 0")
	wantTalk(t, codes, "run 0 = 1", "run 2 = 0", "run 0 2 2 = 2", "run 1 = 1", "run 4 0 = 1", "marks = 1:0 0:1", "run 5 1 1 3 = 1", "run 0 1 2 3 = 0")
	wantTalk(t, codes, "run 4 8 40000 99997 99999 = 4", "marks = 0:1 1:0", "drain 0 = ok")
	wantTalk(t, textsOf("label a; goto a"), "run 0 1 2 3 4 = 3")
}

// P130: what is behind MaxSteps numbers is not done, but must be numbers, too.
func TestLongestRun(t *testing.T) {
	codes := textsOf("const 1 1; label a; add 0 0 1; goto a")
	for _, more := range []int{-1, 0, 1, 5000} {
		count := api.MaxSteps + more
		line := "run" + strings.Repeat(" 0", count)
		done := min(count, api.MaxSteps)
		wantTalk(t, codes, line+" = "+strconv.Itoa(done), "reg 0 0 = "+strconv.Itoa(done/3), line+" = "+strconv.Itoa(done))
		wantTalk(t, codes, line+" 00 = quiescent: text", "reg 0 1 = 0")
	}
}

// P130: a register of a thread.
func TestReg(t *testing.T) {
	wantTalk(t, textsOf("const 0 4294967295; const 7 8", "const 7 9"),
		"run 0 0 1 = 3", "reg 0 0 = 4294967295", "reg 0 7 = 8", "reg 1 7 = 9", "reg 1 0 = 0", "reg 0 1 = 0",
		"reg 0 8 = quiescent: bound", "reg 2 0 = quiescent: bound", "reg 2 8 = quiescent: bound", "reg 99999 99999 = quiescent: bound")
}

// P130: marks in order, each with its thread.
func TestMarks(t *testing.T) {
	wantTalk(t, textsOf("const 0 4294967295; mark 0; mark 1", "mark 3; mark 3"),
		"marks = nothing", "run 0 = 1", "marks = nothing", "run 1 = 1", "marks = 1:0", "marks = 1:0", "run 0 1 0 = 3", "marks = 1:0 0:4294967295 1:0 0:0")
	codes := textsOf("const 1 1; label a; mark 0; add 0 0 1; goto a")
	want := "marks = 0:0"
	for n := 1; n < api.MaxMarks; n++ {
		want += " 0:" + strconv.Itoa(n)
	}
	wantTalk(t, codes, "run"+strings.Repeat(" 0", 4*(api.MaxMarks-1)+2)+" = 1998", want[:len(want)-len(" 0:499")], "run 0 0 = 2", want, "run 0 0 0 0 = 4", want)
}

// P130: how many faults, and how many cells: there is room for MaxCells.
func TestFaultsAndCells(t *testing.T) {
	wantTalk(t, textsOf("need 0; alloc 1; alloc 2; free 1; free 1; load 3 1 0", "free 0"),
		"faults = 0", "cells = 0", "step 0 = ok", "faults = 1", "step 0 = ok", "cells = 1", "step 0 = ok", "cells = 2", "step 0 = ok", "cells = 1", "faults = 1", "step 0 = ok", "faults = 2", "run 0 1 = 2", "faults = 4", "cells = 1")
	wantTalk(t, textsOf(strings.Repeat("alloc 0; ", api.MaxCells)+"alloc 0"),
		"run"+strings.Repeat(" 0", api.MaxCells-1)+" = 63", "cells = 63", "step 0 = ok", "cells = 64", "reg 0 0 = 64", "step 0 = ok", "cells = 64", "reg 0 0 = 0", "faults = 0")
}

// P130: is a thread done? One that is none is.
func TestDone(t *testing.T) {
	wantTalk(t, textsOf("alloc 0; store 0 0 0", "fence; stop; fence", ""),
		"done 0 = no", "done 1 = no", "done 2 = yes", "done 3 = yes", "done 99999 = yes", "step 1 = ok", "done 1 = yes", "run 0 0 = 2", "done 0 = yes", "drain 0 = ok", "done 0 = yes")
}

// P130: all ways from the beginning on, wherever the machine is, which stays as it is.
func TestWalk(t *testing.T) {
	wantTalk(t, textsOf("label a; goto a"), "walk 2 = 2 0", "walk 1 = quiescent: bound", "walk 0 = quiescent: bound", "walk 60000 = 2 0", "walk 60001 = quiescent: bound", "walk 99999 = quiescent: bound", "faults = 0")
	wantTalk(t, textsOf(""), "walk 1 = 1 1")
	wantTalk(t, textsOf("fence", "fence"), "walk 4 = 4 1", "walk 3 = quiescent: bound", "run 0 1 = 2", "walk 4 = 4 1", "done 0 = yes")
	wantTalk(t, textsOf("alloc 0; store 0 0 0"), "walk 9 = 4 1", "step 0 = ok", "walk 9 = 4 1", "cells = 1", "step 0 = ok", "drain 0 = ok", "walk 9 = 4 1", "drain 0 = quiescent: none")
	codes := textsOf("alloc 1; alloc 0; mark 0", "const 0 2; free 0")
	wantTalk(t, codes, "walk 100 = fault 1 1", "marks = nothing", "faults = 0", "cells = 0", "reg 1 0 = 0", "run 0 0 0 1 1 = 5", "walk 100 = fault 1 1", "marks = 0:2", "faults = 0", "cells = 1")
	wantTalk(t, textsOf("fence; fence", "need 3; fence"), "walk 100 = fault 1", "walk 1 = quiescent: bound")
	wantTalk(t, textsOf("alloc 0; store 0 0 0; const 1 1; fence", "const 0 1; free 0"), "walk 500 = fault 1 1", "run 0 = 1")
}

// P130: the way that walk tells is a run: its last number makes the fault.
func TestWayIsARun(t *testing.T) {
	codes := textsOf("alloc 0; store 0 0 0; fence", "const 0 1; const 1 1; label a; load 0 1 0; zero 0 a; free 1; need 0")
	for _, codes := range [][]string{codes, textsOf("fence; fence; need 1"), textsOf("alloc 0; const 1 3; store 0 1 0; load 2 0 0; fence; sub 2 2 1; need 2", "")} {
		way, ok := strings.CutPrefix(answers(t, codes, "walk 5000")[0], "fault ")
		if !ok {
			t.Fatal(codes, way)
		}
		numbers := strings.Split(way, " ")
		last := len(numbers) - 1
		wantTalk(t, codes, "run "+way+" = "+strconv.Itoa(last+1), "faults = 1")
		if last > 0 {
			wantTalk(t, codes, "run "+strings.Join(numbers[:last], " ")+" = "+strconv.Itoa(last), "faults = 0", "run "+numbers[last]+" = 1", "faults = 1")
		}
	}
}

// P130: at the beginning nothing is noted, no cell is there, and all registers are 0; a thread for each text.
func TestBeginning(t *testing.T) {
	for threads := 1; threads <= api.MaxThreads; threads++ {
		talk := []string{"marks = nothing", "faults = 0", "cells = 0", "step " + strconv.Itoa(threads) + " = quiescent: bound"}
		for thread := range threads {
			of := strconv.Itoa(thread)
			for register := range api.Registers {
				talk = append(talk, "reg "+of+" "+strconv.Itoa(register)+" = 0")
			}
			talk = append(talk, "drain "+of+" = quiescent: none", "done "+of+" = no", "step "+of+" = ok", "done "+of+" = yes")
		}
		wantTalk(t, slices.Repeat(textsOf("fence"), threads), talk...)
	}
}

// P130: no lines have no answers; up to MaxLines have some.
func TestHowManyLines(t *testing.T) {
	for _, lines := range [][]string{nil, {}} {
		if got, err := Run(textsOf("fence"), lines); len(got) != 0 || err != nil {
			t.Error(got, err)
		}
	}
	lines := slices.Repeat([]string{"step 0"}, api.MaxLines)
	got := answers(t, textsOf("label a; goto a"), lines...)
	if !slices.Equal(got, slices.Repeat([]string{"ok"}, api.MaxLines)) {
		t.Error(got)
	}
}
