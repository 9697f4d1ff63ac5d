package side

import (
	"fmt"
	"math"
	"slices"
	"strings"
	"testing"

	"quiescent/api"
	"quiescent/mach"
)

// wantRuns of scripts: each by itself, and all by one call, by however many.
func wantRuns(t *testing.T, s mach.Start, codes [][]api.Instr, scripts [][]int, want []Seen) {
	t.Helper()
	for workers := 1; workers <= api.Workers; workers++ {
		got, err := Runs(s, codes, scripts, workers)
		if !slices.EqualFunc(got, want, sameSeen) || err != nil {
			t.Fatalf("%d workers: %.600v, %v, want %.600v", workers, got, err, want)
		}
	}
}

// P120: what is seen of a run, told by hand.
func TestRuns(t *testing.T) {
	codes := codesOf(t, "const 0 5; mark 0; store 6 0 2; alloc 1; need 2", "load 0 6 2; mark 0; free 7")
	both := []mach.Mark{mark(0, 5), mark(1, 5)}
	for _, c := range []struct {
		script []int
		want   Seen
	}{
		{nil, Seen{Cells: 2}},
		{[]int{}, Seen{Cells: 2}},
		{[]int{0}, Seen{Cells: 2, Steps: 1}},
		{[]int{0, 0}, Seen{Cells: 2, Steps: 2, Marks: both[:1]}},
		{[]int{2, 3, -1, -2}, Seen{Cells: 2}}, // nothing to drain: each has an error
		{[]int{1, 1}, Seen{Cells: 2, Steps: 2, Marks: []mach.Mark{mark(1, 0)}}},
		{[]int{0, 0, 0, 1, 2, 1}, Seen{Cells: 2, Steps: 6, Marks: []mach.Mark{both[0], mark(1, 0)}}},
		{[]int{0, 0, 0, 2, 1, 1}, Seen{Cells: 2, Steps: 6, Marks: both}},
		{[]int{4, -4, 8, -2, 1, 5}, Seen{Cells: 2, Steps: 6, Marks: both}}, // the same, around
		{[]int{0, 0, 0, 0}, Seen{Cells: 3, Steps: 4, Marks: both[:1]}},
		{[]int{0, 0, 0, 0, 0}, Seen{Cells: 3, Steps: 5, Marks: both[:1], Faults: 1}},
		{[]int{0, 0, 0, 0, 0, 0, 2, 2}, Seen{Cells: 3, Steps: 6, Marks: both[:1], Faults: 1}},
		{[]int{1, 1, 1, 1, 1}, Seen{Cells: 1, Steps: 3, Marks: []mach.Mark{mark(1, 0)}}},
		{[]int{0, 0, 0, 2, 1, 1, 1, 0, 0}, Seen{Cells: 2, Steps: 9, Marks: both, Faults: 1, Done: true}},
		{[]int{0, 0, 0, 2, 1, 1, 1, 0, 0, 0, 1, 2, 3}, Seen{Cells: 2, Steps: 9, Marks: both, Faults: 1, Done: true}},
		{[]int{0, 0, 0, 0, 0, 1, 1, 1}, Seen{Cells: 2, Steps: 8, Marks: []mach.Mark{both[0], mark(1, 0)}, Faults: 1, Done: true}}, // one store still waits
	} {
		wantRuns(t, startOf(2), codes, [][]int{c.script}, []Seen{c.want})
		wantRuns(t, startOf(2), codes, [][]int{{0}, c.script, {0}}, []Seen{{Cells: 2, Steps: 1}, c.want, {Cells: 2, Steps: 1}})
	}
}

// P120: without scripts there is nothing to see; without instructions all is done at once.
func TestRunsOfNothing(t *testing.T) {
	wantRuns(t, startOf(2), codesOf(t, "fence", ""), nil, nil)
	wantRuns(t, startOf(2), codesOf(t, "fence", ""), [][]int{}, nil)
	wantRuns(t, mach.Start{Cells: 1}, [][]api.Instr{nil}, [][]int{nil, {0, 1}}, []Seen{{Done: true}, {Done: true}})
	wantRuns(t, mach.Start{Cells: 1}, codesOf(t, "stop; fence", "goto a; stop; label a"), [][]int{{0}, {1, 1}}, []Seen{{}, {Steps: 2, Done: true}})
}

// P120: each script has a machine of its own: what one does, none of the others sees.
func TestOwnMachines(t *testing.T) {
	codes := codesOf(t, "load 0 6 0; mark 0; free 6; free 7; alloc 1; mark 1; alloc 1; mark 1; alloc 1; mark 1")
	one := alone(t, startOf(1), codes, make([]int, 20))
	if fmt.Sprint(one) != "{[{0 10} {0 65} {0 66} {0 3}] 0 10 3 true}" {
		t.Fatal(one)
	}
	wantRuns(t, startOf(1), codes, slices.Repeat([][]int{make([]int, 20)}, longest), slices.Repeat([]Seen{one}, longest))
}

// P120: of the greatest runs there are: MaxSteps numbers, MaxMarks marks, MaxThreads threads, 100 scripts.
func TestGreatRuns(t *testing.T) {
	codes := codesOf(t, "label a; mark 6; goto a")
	long := make([]int, api.MaxSteps+api.MaxSteps/2)
	marks := slices.Repeat([]mach.Mark{{N: 1}}, api.MaxMarks)
	want := Seen{Marks: marks, Steps: api.MaxSteps, Cells: 2}
	wantRuns(t, startOf(1), codes, [][]int{long, long[:api.MaxSteps], long[:3*api.MaxMarks], long[:3*api.MaxMarks-3]},
		[]Seen{want, want, {Marks: marks, Steps: 3 * api.MaxMarks, Cells: 2}, {Marks: marks[1:], Steps: 3*api.MaxMarks - 3, Cells: 2}})

	codes = codesOf(t, slices.Repeat([]string{"mark 6"}, api.MaxThreads)...)
	var scripts [][]int
	var seen []Seen
	for i := range longest {
		script := []int{i, i + 1}
		scripts, seen = append(scripts, script), append(seen, alone(t, startOf(api.MaxThreads), codes, script))
	}
	wantRuns(t, startOf(api.MaxThreads), codes, scripts, seen)
	wantRuns(t, startOf(api.MaxThreads), codes, [][]int{{0, 1, 2, 3, 4}, {0, 1, 2, 3, 4, 5}},
		[]Seen{alone(t, startOf(6), codes, []int{0, 1, 2, 3, 4}), {Marks: []mach.Mark{mark(0, 1), mark(1, 1), mark(2, 1), mark(3, 1), mark(4, 1), mark(5, 1)}, Steps: 6, Cells: 2, Done: true}})
}

// some code: it does something with what all threads have in common, and may go on for ever.
func some(next func(n int) int) string {
	l := []string{"label a"}
	for range 1 + next(12) {
		l = append(l, []string{
			"store 6 7 0", "store 7 6 0", "store 6 0 1", "load 0 6 0", "load 0 7 0", "load 1 0 2", "swap 0 7 0", "cas 6 0 2", "alloc 0", "alloc 6", "free 7", "free 0",
			"add 0 0 6", "sub 0 0 7", "mark 0", "mark 0", "mark 6", "need 0", "fence", "force", "zero 0 a", "same 0 6 b", "goto b", "goto a", "stop",
		}[next(25)])
	}
	return strings.Join(append(l, "label b"), "; ")
}

// P120, P121: of whatever codes and scripts, and by however many, each is as if it were alone.
func TestSomeRuns(t *testing.T) {
	seen := Seen{}
	done := 0
	for seed := range uint32(300) {
		next := counter(seed)
		var texts []string
		for range 1 + next(api.MaxThreads) {
			texts = append(texts, some(next))
		}
		s, codes := startOf(len(texts)), codesOf(t, texts...)
		var scripts [][]int
		var want []Seen
		for range next(30) {
			var script []int
			for range next(200) {
				script = append(script, next(40)-20)
			}
			one := alone(t, s, codes, script)
			scripts, want = append(scripts, script), append(want, one)
			seen.Faults, seen.Steps, seen.Cells = seen.Faults+one.Faults, seen.Steps+one.Steps, seen.Cells+one.Cells
			seen.Marks = append(seen.Marks, one.Marks...)
			if one.Done {
				done++
			}
		}
		wantRuns(t, s, codes, scripts, want)
	}
	if seen.Faults < 1000 || len(seen.Marks) < 1000 || seen.Steps < 10000 || seen.Cells < 1000 || done < 100 {
		t.Error("too little is seen:", seen.Faults, len(seen.Marks), seen.Steps, seen.Cells, done)
	}
}

// wantNoRuns with an error.
func wantNoRuns(t *testing.T, s mach.Start, codes [][]api.Instr, scripts [][]int, workers int, want error, at int) {
	t.Helper()
	l, err := Runs(s, codes, scripts, workers)
	wantErr(t, err, want, at)
	if len(l) != 0 {
		t.Error(l)
	}
}

// P120: workers are told first, then how many scripts there are, then what mach.New tells.
func TestRunsErrors(t *testing.T) {
	good, name := codesOf(t, "fence", "stop"), []api.Instr{{Op: "goto", To: "a"}}
	for _, c := range []struct {
		s     mach.Start
		codes [][]api.Instr
		want  error
		at    int
	}{
		{startOf(2), good, nil, -1},
		{startOf(2), [][]api.Instr{good[0], name}, api.ErrNone, 1},
		{startOf(2), [][]api.Instr{good[0], {{Op: "what"}}, name}, api.ErrShape, 1},
		{startOf(1), [][]api.Instr{{{Op: "label", To: "A"}}}, api.ErrName, 0},
		{startOf(1), [][]api.Instr{{{Op: "mark", A: 8}}}, api.ErrBound, 0},
		{startOf(1), [][]api.Instr{nil, nil, make([]api.Instr, api.MaxCode+1)}, api.ErrBound, 2},
		{startOf(1), nil, api.ErrBound, -1},
		{startOf(1), make([][]api.Instr, api.MaxThreads+1), api.ErrBound, -1},
		{startOf(3), [][]api.Instr{name, name}, api.ErrBound, -1},
		{mach.Start{}, [][]api.Instr{name}, api.ErrBound, -1},
		{mach.Start{Cells: api.MaxCells + 1}, good, api.ErrBound, -1},
		{mach.Start{Cells: 1, Init: [][]int{{-1}}}, good, api.ErrBound, -1},
		{mach.Start{Cells: 1, Regs: [][]int{make([]int, 9)}}, good, api.ErrBound, -1},
	} {
		for _, workers := range notWorkers() {
			for _, n := range []int{0, 1, longest, longest + 1} {
				wantNoRuns(t, c.s, c.codes, make([][]int, n), workers, api.ErrShape, -1)
			}
		}
		for _, workers := range []int{1, 2, 7, api.Workers} {
			for _, n := range []int{longest + 1, 5000} {
				wantNoRuns(t, c.s, c.codes, make([][]int, n), workers, api.ErrBound, -1)
			}
			if c.want != nil {
				for _, n := range []int{0, 1, longest} {
					wantNoRuns(t, c.s, c.codes, make([][]int, n), workers, c.want, c.at)
				}
			}
		}
	}
}

// P1: whatever numbers a script has.
func TestRunsOfAnyNumbers(t *testing.T) {
	codes := codesOf(t, "label a; goto a", "mark 0", "")
	script := []int{math.MinInt, math.MaxInt, math.MinInt + 1, -1, 0, 1 << 32, -1 << 32}
	wantRuns(t, startOf(3), codes, [][]int{script}, []Seen{alone(t, startOf(3), codes, script)})
}

// P4: what is handed over is only read, not behind its length either; no two answers have memory in common.
func TestRunsMemory(t *testing.T) {
	s, codes := startOf(1), codesOf(t, "mark 6; mark 7; store 6 7 0; free 6")
	behind := []int{0, 0, 0, 0, 9, 9}
	scripts := [][]int{behind[:2:6], {0, 0, 0, 0}, behind[:3], {-2, 0, 7}}
	first, err := Runs(s, codes, scripts[:3:4], 3)
	if err != nil || len(first) != 3 {
		t.Fatal(first, err)
	}
	was := fmt.Sprint(first)
	for i := range first {
		first[i].Marks = append(first[i].Marks, mach.Mark{Thread: 7, N: 7})
		clear(first[i].Marks[:cap(first[i].Marks)])
		for j := range first[:i] {
			if len(first[j].Marks) != 3 || first[j].Marks[0] != (mach.Mark{}) {
				t.Error(first)
			}
			first[j].Marks[0] = mach.Mark{}
		}
	}
	if again, _ := Runs(s, codes, scripts[:3], 2); fmt.Sprint(again) != was {
		t.Error(again, was)
	}
	if fmt.Sprint(s) != fmt.Sprint(startOf(1)) || fmt.Sprint(codes) != fmt.Sprint(codesOf(t, "mark 6; mark 7; store 6 7 0; free 6")) {
		t.Error(s, codes)
	}
	if fmt.Sprint(behind, scripts) != "[0 0 0 0 9 9] [[0 0] [0 0 0 0] [0 0 0] [-2 0 7]]" {
		t.Error(behind, scripts)
	}
}

// P4: an answer stays as it is, if what was handed over is changed.
func TestRunsStay(t *testing.T) {
	s, codes, scripts := startOf(1), codesOf(t, "const 0 5; mark 0; mark 6"), [][]int{{0, 0, 0}, {0, 0}}
	got, err := Runs(s, codes, scripts, 2)
	was := fmt.Sprint(got, err)
	clear(codes[0])
	clear(scripts[0])
	clear(s.Regs[0])
	clear(scripts)
	if fmt.Sprint(got, err) != was {
		t.Error(got, was)
	}
}
