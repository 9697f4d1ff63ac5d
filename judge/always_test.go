package judge

import (
	"fmt"
	"slices"
	"strings"
	"testing"

	"quiescent/api"
	"quiescent/client"
	"quiescent/mach"
)

// told of all ways, by a way of its own: without any state kept, each script to its end.
type told struct {
	fault bool
	rows  map[string][]int
}

// all scripts from a machine on that do something with each number.
func (o *told) all(m *mach.Machine, threads, reg int) {
	if o.fault = o.fault || m.Faults() > 0; o.fault {
		return
	}
	end := true
	for n := range 2 * threads {
		if next := m.Copy(); next.Run([]int{n}) > 0 {
			end = false
			o.all(next, threads, reg)
		}
	}
	if end {
		l := row(m, threads, reg)
		o.rows[fmt.Sprint(l)] = l
	}
}

// sorted rows, by inserting one after the other.
func (o *told) sorted() [][]int {
	var l [][]int
	for _, row := range o.rows {
		at := 0
		for at < len(l) && less(l[at], row) {
			at++
		}
		l = slices.Insert(l, at, row)
	}
	return l
}

func less(a, b []int) bool {
	for i := range a {
		if a[i] != b[i] {
			return a[i] < b[i]
		}
	}
	return false
}

// some code without loops: it does something, and mostly looks what others did.
func some(next func(n int) int) string {
	one := func(lines ...string) string { return lines[next(len(lines))] }
	l := []string{
		one("store 6 6 0", "store 6 7 0", "store 7 6 0", "store 7 0 0", "swap 0 6 0", "swap 0 7 0", "cas 6 0 2", "alloc 0", "load 0 6 0"),
		one("fence", "force", "store 6 7 0", "store 7 6 0", "store 7 0 0", "swap 0 6 0", "const 0 5", "zero 0 z", "same 0 6 z", "alloc 0", "load 1 6 0", "free 6"),
		one("load 0 6 0", "load 0 7 0", "load 0 7 0", "swap 0 7 0", "add 0 0 1", "load 1 0 0"),
	}
	return strings.Join(append(l[next(2):], "label z"), "; ")
}

// P111: of whatever codes, the outcomes are those of all scripts.
func TestOutcomesOfAllScripts(t *testing.T) {
	next := counter(3)
	count := map[string]int{}
	for round := range 250 {
		texts := []string{some(next), some(next)}
		if round%10 == 0 {
			texts = []string{some(next), "load 0 6 0", "store 6 7 0"}
		}
		codes, reg := codesOf(t, texts...), next(4)/3
		m, err := mach.New(startOf(len(codes)), codes)
		if err != nil {
			t.Fatal(err)
		}
		want := told{rows: map[string][]int{}}
		want.all(m, len(codes), reg)
		got, err := Outcomes(startOf(len(codes)), codes, reg, api.MaxStates)
		if want.fault {
			count["fault"]++
			if got != nil || err != api.ErrHeld {
				t.Errorf("%q: %v, %v, but a fault comes", texts, got, err)
			}
			continue
		}
		count[fmt.Sprint(min(len(got), 4))]++
		if fmt.Sprint(got) != fmt.Sprint(want.sorted()) || err != nil {
			t.Errorf("%q: %v, %v, want %v", texts, got, err, want.sorted())
		}
	}
	t.Log(count)
	for _, kind := range []string{"fault", "1", "2", "3", "4"} {
		if count[kind] < 5 {
			t.Error(kind, "came too seldom:", count)
		}
	}
}

// depth goes through all that can be reached, the last number first, and tells how many states there are; 0 where a fault comes, or there are more than most.
func depth(m *mach.Machine, threads, most int) int {
	known, open := map[string]int{fmt.Sprint(m.State()): 1}, []*mach.Machine{m}
	for len(open) > 0 {
		m, open = open[len(open)-1], open[:len(open)-1]
		for n := range 2 * threads {
			c := m.Copy()
			if c.Run([]int{n}) == 0 {
				continue
			}
			if c.Faults() > 0 || len(known) > most {
				return 0
			}
			if k := fmt.Sprint(c.State()); known[k] == 0 {
				known[k] = 1
				open = append(open, c)
			}
		}
	}
	return len(known)
}

// wantHolds: whatever a verdict says is so.
func wantHolds(t *testing.T, f int, l [][]api.Op, most int) Verdict {
	t.Helper()
	v, err := Client(f, l, most)
	if err != nil {
		t.Fatal(f, l, err)
	}
	switch v.Kind {
	case "safe":
		if n := depth(machine(t, f, l), len(l), most); n != v.States || v.Way != nil {
			t.Error(f, l, v, "there are", n)
		}
	case "fault":
		wantReplay(t, f, l, v.Way, true)
		wantReplay(t, f, l, v.Way[:len(v.Way)-1], false)
		if v.States < 1 || v.States > most {
			t.Error(f, l, v)
		}
	case "large":
		if n := depth(machine(t, f, l), len(l), most); n != 0 && n <= most {
			t.Error(f, l, v, "there are", n)
		}
	default:
		t.Error(f, l, v)
	}
	return v
}

// P112: of whatever clients, and however many states may be.
func TestVerdictsHold(t *testing.T) {
	writers := []string{"put5 drop", "put5 wait drop", "put5 later", "put5 later flush", "put5 drop wait", "put5 rest drop", "put5 enter read leave drop", "put5 flush drop", "put5 later put6 drop", "wait", "rest", "flush", "enter read leave", ""}
	for _, f := range flavours() {
		count := map[string]int{}
		for _, a := range writers {
			for _, b := range []string{"enter read leave", "put6 drop", "rest"} {
				for i, l := range [][][]api.Op{clientOf(a, b), clientOf(b, a)} {
					safe, err := client.Safe(l)
					v := wantHolds(t, f, l, []int{3000, 300}[i])
					if safe && v.Kind == "fault" || err != nil {
						t.Error(f, a, b, safe, v)
					}
					count[v.Kind]++
				}
			}
		}
		if count["safe"] < 10 || count["fault"] < 10 || count["large"] < 10 {
			t.Error(f, count)
		}
	}
}

// P112: a safe client has no fault by any of many schedules.
func TestSafeBySchedules(t *testing.T) {
	for name, l := range clients() {
		if kindOf(name) != "safe" {
			continue
		}
		for _, f := range flavours() {
			for seed := range uint32(100) {
				next := counter(seed)
				var way []int
				for range 200 {
					way = append(way, slices.Repeat([]int{next(2 * len(l))}, 1+next(10))...)
				}
				wantReplay(t, f, l, way, false)
			}
		}
	}
}

// P2: the same again.
func TestAgain(t *testing.T) {
	for name, l := range clients() {
		if kindOf(name) == "large" {
			continue
		}
		for _, f := range flavours() {
			first, _ := Client(f, l, 5000)
			for range 3 {
				if again, err := Client(f, l, 5000); !sameVerdict(first, again) || err != nil {
					t.Error(f, name, first, again, err)
				}
			}
		}
	}
}
