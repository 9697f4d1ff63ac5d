package walk

import (
	"errors"
	"math"
	"slices"
	"testing"

	"quiescent/api"
	"quiescent/mach"
)

// P50: a fault ends all; its way is told, and what was found until then.
func TestFaults(t *testing.T) {
	for _, c := range []struct {
		texts []string
		want  Told
	}{
		{[]string{"need 0"}, Told{1, 0, true, []int{0}}},
		{[]string{"load 0 1 0"}, Told{1, 0, true, []int{0}}},
		{[]string{"store 1 6 0"}, Told{1, 0, true, []int{0}}},
		{[]string{"swap 0 1 0"}, Told{1, 0, true, []int{0}}},
		{[]string{"cas 1 0 0"}, Told{1, 0, true, []int{0}}},
		{[]string{"free 1"}, Told{1, 0, true, []int{0}}},
		{[]string{"fence; need 0; fence"}, Told{2, 0, true, []int{0, 0}}},
		{[]string{"free 6; free 6"}, Told{2, 0, true, []int{0, 0}}},
		{[]string{"free 6; alloc 0; load 0 6 0"}, Told{3, 0, true, []int{0, 0, 0}}},
		{[]string{"", "need 0"}, Told{1, 0, true, []int{1}}},
		{[]string{"need 0", "need 0"}, Told{1, 0, true, []int{0}}},                         // the first number of as good ones
		{[]string{"fence; need 0", "fence; need 0"}, Told{3, 0, true, []int{0, 0}}},        // the second thread's first step was found ahead of it
		{[]string{"fence; fence; need 0", "fence; need 0"}, Told{5, 0, true, []int{1, 1}}}, // the shorter one
		{[]string{"free 6", "load 0 6 0"}, Told{3, 0, true, []int{0, 1}}},
		{[]string{"load 0 6 0", "free 6"}, Told{4, 1, true, []int{1, 0}}}, // behind an end
		{[]string{"store 6 7 0", "free 6"}, Told{5, 0, true, []int{1, 0}}},
		{[]string{"stop", "", "stop; need 0", "fence; need 0"}, Told{2, 0, true, []int{3, 3}}},
	} {
		wantTold(t, c.want, c.texts...)
		for _, most := range []int{c.want.States - 1, 1} {
			if most > 0 && most < c.want.States { // the bound comes ahead of the fault
				wantMore(t, most, c.texts...)
			}
		}
	}
}

// P50: a drain by which a fault is noted ends all, too. Thread 1 frees the cell only where the last one is taken, and so behind the store that still waits for it; what thread 0 does behind that would make a fault later.
func TestFaultByDrain(t *testing.T) {
	texts := []string{"store 6 6 0; alloc 0", "alloc 0; zero 0 a; stop; label a; free 6"}
	told, err := All(startOf(2), codesOf(t, texts...), api.MaxStates)
	if !told.Fault || !slices.Equal(told.Way, []int{0, 0, 1, 1, 1, 1, 2}) || err != nil {
		t.Error(told, err)
	}
	texts[0] += "; need 6; need 6; need 6; fence; need 0"
	if again, err := All(startOf(2), codesOf(t, texts...), api.MaxStates); !again.Fault || !slices.Equal(again.Way, told.Way) || err != nil {
		t.Error(again, err)
	}
	texts[0] = "store 6 6 0; fence; alloc 0"
	wantTold(t, Told{States: 19, Ends: 2}, texts...)
}

// dekker is a thread that says that it wants in, by its own word, and goes in where the other one does not. Two that are in at once are a fault.
func dekker(own, other string) []string {
	in := "; load 1 7 " + other + "; zero 1 in; stop; label in; swap 2 7 3; sub 3 0 2; need 3; swap 2 7 3"
	return []string{"const 0 1; const 2 1; store 7 0 " + own + in, "const 0 1; const 2 1; store 7 0 " + own + "; fence" + in}
}

// The document's example: two that store and load may both find 0; with a fence between, not.
func TestBothFindNone(t *testing.T) {
	s := mach.Start{Cells: 1, Init: [][]int{{}}, Regs: slices.Repeat([][]int{{0, 0, 0, 0, 0, 0, 0, 1}}, 2)}
	for fences, want := range []bool{true, true, true, false} {
		codes := codesOf(t, dekker("0", "1")[fences&1], dekker("1", "0")[fences>>1])
		told, err := All(s, codes, api.MaxStates)
		if told.Fault != want || err != nil {
			t.Error(fences, told, err)
		}
		wantReplay(t, s, codes, told)
	}
}

// wantReplay holds a way against the machine: its last number is the first one that makes a fault.
func wantReplay(t *testing.T, s mach.Start, codes [][]api.Instr, told Told) {
	t.Helper()
	if told.Fault != (len(told.Way) > 0) {
		t.Fatal(told)
	}
	m, err := mach.New(s, codes)
	if err != nil {
		t.Fatal(err)
	}
	for i, n := range told.Way {
		if m.Faults() != 0 || m.Run([]int{n}) != 1 || n < 0 || n >= 2*len(codes) {
			t.Fatal(told, i)
		}
	}
	if (m.Faults() > 0) != told.Fault {
		t.Fatal(told, m.Faults())
	}
}

// P51: mach.New's errors, ahead of a bad bound.
func TestStartErrors(t *testing.T) {
	good := codesOf(t, "fence")
	for _, most := range []int{100, 0, api.MaxStates + 1} {
		for name, c := range map[string]struct {
			start mach.Start
			codes [][]api.Instr
		}{
			"no cells":     {mach.Start{}, good},
			"many cells":   {mach.Start{Cells: api.MaxCells + 1}, good},
			"no threads":   {startOf(0), nil},
			"many threads": {startOf(0), make([][]api.Instr, api.MaxThreads+1)},
			"many in Init": {mach.Start{Cells: 1, Init: make([][]int, 2)}, good},
			"many words":   {mach.Start{Cells: 1, Init: [][]int{make([]int, api.Words+1)}}, good},
			"many Regs":    {startOf(2), good},
			"no word":      {mach.Start{Cells: 1, Regs: [][]int{{1 << 32}}}, good},
		} {
			if told, err := All(c.start, c.codes, most); !sameTold(told, Told{}) || err != api.ErrBound {
				t.Error(name, most, told, err)
			}
		}
		told, err := All(startOf(2), [][]api.Instr{good[0], {{Op: "fence"}, {Op: "goto", To: "a"}}}, most)
		var f *api.Fault
		if !sameTold(told, Told{}) || !errors.As(err, &f) || f.At != 1 || f.Err != api.ErrNone {
			t.Error(most, told, err)
		}
	}
}

// P51: most is from 1 to MaxStates.
func TestMost(t *testing.T) {
	for _, most := range []int{math.MinInt, -1, 0, api.MaxStates + 1, math.MaxInt} {
		wantMore(t, most, "stop")
		wantMore(t, most, "need 0")
	}
	for _, most := range []int{1, 2, api.MaxStates} {
		if told, err := All(startOf(1), codesOf(t, "stop"), most); told.States != 1 || err != nil {
			t.Error(most, told, err)
		}
	}
}

// P51: more states than most is an error, also where they do not end; most itself is not.
func TestMore(t *testing.T) {
	for _, texts := range [][]string{
		{"label a; add 0 0 6; goto a"},
		{"label a; alloc 0; free 0; const 0 0; goto a"}, // by how often its cell was given alone
		{"store 6 7 0", "label a; sub 0 0 7; goto a", "fence"},
	} {
		for _, most := range []int{1, 2, 3, 100, 10000} {
			wantMore(t, most, texts...)
		}
	}
	wantMore(t, api.MaxStates, "label a; add 0 0 6; goto a")
	long := func(n int) []api.Instr { return slices.Repeat([]api.Instr{{Op: "fence"}}, n-1) }
	codes := [][]api.Instr{long(300), long(200)}
	if told, err := All(startOf(2), codes, api.MaxStates); told.States != api.MaxStates || told.Ends != 1 || err != nil {
		t.Error(told, err)
	}
	if told, err := All(startOf(2), codes, api.MaxStates-1); told.States != 0 || err != api.ErrBound {
		t.Error(told, err)
	}
	codes = [][]api.Instr{long(251), long(240)}
	if told, err := All(startOf(2), codes, api.MaxStates); told.States != 0 || err != api.ErrBound {
		t.Error(told, err)
	}
}
