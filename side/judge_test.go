package side

import (
	"fmt"
	"math"
	"slices"
	"testing"

	"quiescent/api"
	"quiescent/judge"
)

const enough = 1500 // states

// clients, of each kind of verdict some.
func clients() [][][]api.Op {
	return [][][]api.Op{
		clientOf(""),
		clientOf("enter read leave"),
		clientOf("put5 drop", "put6 drop"),
		clientOf("enter read leave", "put5 wait drop"),
		clientOf("enter read leave", "put5 drop"),
		clientOf("put5 rest drop", "enter read leave"),
		clientOf("enter read leave", "enter read leave", "enter read leave", "put5 wait drop"),
	}
}

// wantJudge of flavours: of each what judge.Client tells, by however many.
func wantJudge(t *testing.T, fs []int, l [][]api.Op, most int) map[string]int {
	t.Helper()
	kinds := map[string]int{}
	var want []judge.Verdict
	for _, f := range fs {
		v, err := judge.Client(f, l, most)
		if err != nil {
			t.Fatal(f, err)
		}
		want = append(want, v)
		kinds[v.Kind]++
	}
	for _, workers := range []int{1, 2, 5, api.Workers} {
		got, err := Judge(fs, l, most, workers)
		if !slices.EqualFunc(got, want, sameVerdict) || err != nil {
			t.Fatal(workers, fs, l, got, err, "want", want)
		}
	}
	return kinds
}

// P120, P121: of each flavour a verdict, in their order; also of one that comes twice.
func TestJudge(t *testing.T) {
	for i, kind := range []string{"safe", "safe", "safe", "safe", "fault", "fault", "large"} {
		for _, fs := range [][]int{nil, {}, {3}, {4, 3, 2, 1}, {2, 2}, {1, 4, 1}} {
			if kinds := wantJudge(t, fs, clients()[i], enough); kinds[kind] != len(fs) {
				t.Error(i, kind, fs, kinds)
			}
		}
	}
}

// P121: those whose kinds are not the same, as one flavour has more states than another one.
func TestJudgeOfSomeStates(t *testing.T) {
	mixed := 0
	for _, l := range clients()[1:6] {
		for most := 1; most < 400; most += 41 {
			if len(wantJudge(t, []int{4, 1, 3, 2}, l, most)) > 1 {
				mixed++
			}
		}
	}
	if mixed < 10 {
		t.Error("too few are mixed:", mixed)
	}
}

// P120: up to 100 flavours.
func TestJudgeOfMany(t *testing.T) {
	fs := slices.Repeat(flavours(), longest/4)
	for _, l := range clients()[:2] {
		if kinds := wantJudge(t, fs, l, enough); kinds["safe"] != longest {
			t.Error(kinds)
		}
	}
}

// wantNoVerdicts with an error, by however many.
func wantNoVerdicts(t *testing.T, fs []int, l [][]api.Op, most int, want error, at int) {
	t.Helper()
	for workers := 1; workers <= api.Workers; workers++ {
		v, err := Judge(fs, l, most, workers)
		wantErr(t, err, want, at)
		if len(v) != 0 {
			t.Error(workers, v)
		}
	}
}

// P120: the first flavour that has an error tells it, without the place that it may have had.
func TestJudgeErrors(t *testing.T) {
	good := clientOf("enter read leave", "put5 wait drop")
	for _, f := range []int{math.MinInt, -1, 0, 5, 1<<32 + 1, math.MaxInt} {
		wantNoVerdicts(t, []int{f}, good, enough, api.ErrBound, 0)
		wantNoVerdicts(t, []int{1, 2, 3, 4, f, 1}, good, 50, api.ErrBound, 4)
		wantNoVerdicts(t, []int{2, f, 3, f, f}, good, 50, api.ErrBound, 1)
		wantNoVerdicts(t, append(slices.Repeat([]int{1}, longest-1), f), good, 1, api.ErrBound, longest-1)
		wantNoVerdicts(t, []int{f, 2}, clientOf("", "drop"), enough, api.ErrNone, 0)
	}
	for _, most := range []int{math.MinInt, -1, 0, api.MaxStates + 1, math.MaxInt} {
		wantNoVerdicts(t, []int{3, 1}, good, most, api.ErrBound, 0)
		wantNoVerdicts(t, []int{3, 9}, clientOf("", "", "what"), most, api.ErrShape, 0)
	}
	for _, c := range []struct {
		l    [][]api.Op
		want error
	}{
		{nil, api.ErrBound},
		{make([][]api.Op, api.MaxThreads+1), api.ErrBound},
		{clientOf("", "", "put1001"), api.ErrBound},
		{clientOf("", "what"), api.ErrShape},
		{clientOf("", "", "", "read"), api.ErrHeld},
		{clientOf("put5 drop", "later"), api.ErrNone},
	} {
		wantNoVerdicts(t, []int{4, 4, 4}, c.l, enough, c.want, 0)
	}
}

// P120: workers are told first, then how many flavours there are, then the flavours.
func TestJudgeErrorsInOrder(t *testing.T) {
	for _, l := range [][][]api.Op{nil, clientOf("enter read leave"), clientOf("", "drop")} {
		for _, f := range []int{0, 1, 4} {
			for _, n := range []int{0, 1, longest, longest + 1} {
				for _, workers := range notWorkers() {
					v, err := Judge(slices.Repeat([]int{f}, n), l, enough, workers)
					wantErr(t, err, api.ErrShape, -1)
					if len(v) != 0 {
						t.Error(v)
					}
				}
			}
			for _, n := range []int{longest + 1, 5000} {
				wantNoVerdicts(t, slices.Repeat([]int{f}, n), l, enough, api.ErrBound, -1)
			}
		}
	}
}

// P120: without a flavour nobody has an error, whatever else is wrong.
func TestJudgeOfNone(t *testing.T) {
	for _, l := range [][][]api.Op{nil, clientOf("what"), clientOf("drop")} {
		for _, most := range []int{-1, 0, api.MaxStates + 1} {
			if kinds := wantJudge(t, nil, l, most); len(kinds) != 0 {
				t.Error(kinds)
			}
		}
	}
}

// P4: what is handed over is only read; each way is new, also where two are the same.
func TestJudgeMemory(t *testing.T) {
	l, behind := clientOf("enter read leave", "put5 drop"), []int{2, 2, 2, 9}
	first, err := Judge(behind[:3], l, enough, 2)
	if err != nil || len(first) != 3 {
		t.Fatal(first, err)
	}
	was := fmt.Sprint(first)
	for _, v := range first {
		if len(v.Way) == 0 || slices.Max(v.Way) == 0 {
			t.Error("nobody has touched it yet:", first)
		}
		clear(v.Way[:cap(v.Way)])
	}
	if again, _ := Judge(behind[:3], l, enough, 3); fmt.Sprint(again) != was {
		t.Error(again, was)
	}
	if fmt.Sprint(l, behind) != fmt.Sprint(clientOf("enter read leave", "put5 drop"), []int{2, 2, 2, 9}) {
		t.Error(l, behind)
	}
}
