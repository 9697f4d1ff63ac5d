package judge

import (
	"fmt"
	"math"
	"slices"
	"testing"

	"quiescent/api"
	"quiescent/mach"
)

func wantOutcomes(t *testing.T, reg int, want string, texts ...string) {
	t.Helper()
	l, err := Outcomes(startOf(len(texts)), codesOf(t, texts...), reg, api.MaxStates)
	if fmt.Sprint(l) != want || err != nil {
		t.Errorf("%q: %v, %v, want %s", texts, l, err, want)
	}
}

// P111: a row for each outcome, of a number for each thread.
func TestOutcomes(t *testing.T) {
	wantOutcomes(t, 0, "[[0]]", "")
	wantOutcomes(t, 6, "[[1]]", "stop")
	wantOutcomes(t, 7, "[[2 2 2 2 2 2]]", "", "", "", "", "", "")
	wantOutcomes(t, 0, "[[3]]", "const 0 3; stop; const 0 4")
	wantOutcomes(t, 1, "[[0]]", "const 0 3")
	wantOutcomes(t, 0, "[[3 4]]", "const 0 3", "const 0 4")
	wantOutcomes(t, 0, "[[0 5] [7 0]]", "const 0 5; swap 0 6 2", "const 0 7; swap 0 6 2")
	wantOutcomes(t, 0, "[[0 3 4] [0 5 3] [4 0 3] [4 5 0] [5 0 4] [5 3 0]]", "const 0 3; swap 0 6 2", "const 0 4; swap 0 6 2", "const 0 5; swap 0 6 2")
}

// P111: of threads that store and load, of the document's example: with a fence in both they can't both find 0.
func TestBothFindNone(t *testing.T) {
	texts := func(between string) (string, string) {
		return "store 6 6 2; " + between + "load 0 7 2", "store 7 6 2; " + between + "load 0 6 2"
	}
	bare, other := texts("")
	fenced, otherFenced := texts("fence; ")
	wantOutcomes(t, 0, "[[0 0] [0 1] [1 0] [1 1]]", bare, other)
	wantOutcomes(t, 0, "[[0 0] [0 1] [1 0] [1 1]]", fenced, other)
	wantOutcomes(t, 0, "[[0 0] [0 1] [1 0] [1 1]]", bare, otherFenced)
	wantOutcomes(t, 0, "[[0 1] [1 0] [1 1]]", fenced, otherFenced)
	wantOutcomes(t, 0, "[[0 1] [1 0] [1 1]]", "store 6 6 2; force; load 0 7 2", other) // one forces both
}

// P111: of stores that come in their order, who finds the second one (2 and 2 again) finds the first one (1), too.
func TestInOrder(t *testing.T) {
	wantOutcomes(t, 0, "[[0 0] [0 1] [0 5]]", "store 6 6 2; store 6 7 3", "load 0 6 3; load 1 6 2; add 0 0 0; add 0 0 1")
}

// P111: rising, number by number, the first thread's first.
func TestRising(t *testing.T) {
	wantOutcomes(t, 0, "[[2 0] [10 0]]", "load 0 6 0", "store 6 7 0") // and not as texts
	wantOutcomes(t, 0, "[[10 0] [4294967295 0]]", "load 0 6 0", "const 1 4294967295; store 6 1 0")
	wantOutcomes(t, 0, "[[0 2] [0 10]]", "store 6 7 0", "load 0 6 0")
	wantOutcomes(t, 0, "[[2 1 0] [2 11 0] [10 1 0] [10 11 0]]", "load 0 6 0", "store 6 7 0; load 0 6 1; load 1 6 3; zero 1 a; const 0 1; label a", "store 6 6 3")
}

// P111: each row once, whatever else there is at an end.
func TestOnce(t *testing.T) {
	wantOutcomes(t, 0, "[[0 0]]", "load 1 6 0", "store 6 7 0")             // two ends, by register 1
	wantOutcomes(t, 0, "[[0 0]]", "store 6 6 0", "store 6 7 0")            // by a word
	wantOutcomes(t, 1, "[[2 2 2]]", "const 1 2", "const 1 2", "const 1 2") // one, by many ways
}

// P111: a state that has no end, or is none yet, has no row.
func TestNoEnd(t *testing.T) {
	wantOutcomes(t, 0, "[]", "label a; goto a")
	wantOutcomes(t, 0, "[]", "label a; goto a", "const 0 1")
	wantOutcomes(t, 0, "[[2]]", "label a; load 0 6 2; store 6 7 2; zero 0 a") // only behind its own store
	wantOutcomes(t, 0, "[[7 0]]", "label a; load 0 6 2; zero 0 a", "const 1 7; store 6 1 2")
	wantOutcomes(t, 0, "[[1 0 0] [1 7 0]]", "const 0 1; label a; load 1 6 2; zero 1 a", "load 0 6 3; const 1 7; store 6 1 2", "const 1 7; store 6 1 3")
}

// P111: reg is a register.
func TestReg(t *testing.T) {
	for reg := range api.Registers {
		wantOutcomes(t, reg, fmt.Sprint([][]int{{startOf(1).Regs[0][reg]}}), "fence")
	}
	for _, reg := range []int{math.MinInt, -1, api.Registers, math.MaxInt} {
		for _, texts := range [][]string{nil, {""}, {"need 0"}, {"label a; add 0 0 6; goto a"}} {
			wantNone(t, api.ErrBound, -1, startOf(len(texts)), codesOf(t, texts...), reg, 1000)
		}
	}
}

func wantNone(t *testing.T, want error, at int, s mach.Start, codes [][]api.Instr, reg, most int) {
	t.Helper()
	l, err := Outcomes(s, codes, reg, most)
	wantErr(t, err, want, at)
	if l != nil {
		t.Error(l)
	}
}

// P111: walk.All's errors, and reg's ahead of them.
func TestOutcomesErrors(t *testing.T) {
	good := codesOf(t, "const 0 1")
	for _, most := range []int{math.MinInt, -1, 0, 1, api.MaxStates + 1, math.MaxInt} {
		wantNone(t, api.ErrBound, -1, startOf(1), good, 0, most)
	}
	for _, most := range []int{0, 1000} {
		wantNone(t, api.ErrBound, -1, mach.Start{}, good, 0, most)
		wantNone(t, api.ErrBound, -1, startOf(0), nil, 0, most)
		wantNone(t, api.ErrBound, -1, startOf(0), make([][]api.Instr, api.MaxThreads+1), 0, most)
		wantNone(t, api.ErrBound, -1, startOf(2), good, 0, most)
		bad := [][]api.Instr{good[0], {{Op: "fence"}, {Op: "goto", To: "a"}}}
		wantNone(t, api.ErrNone, 1, startOf(2), bad, 0, most)
		wantNone(t, api.ErrBound, -1, startOf(2), bad, 8, most)
	}
	wantNone(t, api.ErrBound, -1, startOf(1), codesOf(t, "label a; add 0 0 6; goto a"), 0, api.MaxStates)
}

// P111: with a fault there are no outcomes, also where it comes seldom, by a drain, or behind an end.
func TestOutcomesHeld(t *testing.T) {
	for _, texts := range [][]string{
		{"need 0"}, {"free 0"}, {"", "fence; fence; need 0"}, {"load 0 6 0", "free 6"}, {"store 6 7 0", "free 6"},
		{"load 0 6 2; need 0", "store 6 7 2"},
		{"store 6 6 2; load 0 7 2; load 1 6 3; need 1", "store 7 6 2; store 6 6 3"},
	} {
		wantNone(t, api.ErrHeld, -1, startOf(len(texts)), codesOf(t, texts...), 0, api.MaxStates)
		wantNone(t, api.ErrBound, -1, startOf(len(texts)), codesOf(t, texts...), 8, api.MaxStates)
	}
	slow := codesOf(t, "fence; fence; fence; need 0", "fence; fence; fence") // 10 states are found ahead of its fault
	for most := range 20 {
		if most < 10 {
			wantNone(t, api.ErrBound, -1, startOf(2), slow, 0, most)
		} else {
			wantNone(t, api.ErrHeld, -1, startOf(2), slow, 0, most)
		}
	}
}

// P4: what is handed over is only read; each row is new.
func TestOutcomesMemory(t *testing.T) {
	s, codes := startOf(2), codesOf(t, "const 0 5; swap 0 6 2", "const 0 7; swap 0 6 2")
	first, _ := Outcomes(s, codes, 0, 1000)
	for _, row := range first {
		row = append(row, 9)
		clear(row)
	}
	first = slices.Clip(first)
	first[0] = append(first[0], 1, 2, 3)
	if again, err := Outcomes(s, codes, 0, 1000); fmt.Sprint(again) != "[[0 5] [7 0]]" || err != nil {
		t.Error(again, err)
	}
	if first[1] = first[1][:cap(first[1])]; len(first[1]) != 2 {
		t.Error("a row is longer behind its end:", first)
	}
	if fmt.Sprint(s) != fmt.Sprint(startOf(2)) || len(codes[0]) != 2 || codes[1][0].B != 7 {
		t.Error(s, codes)
	}
}
