package grace

import (
	"slices"
	"testing"

	"quiescent/api"
	"quiescent/mach"
)

// joined tells which own cells are linked, by the words that name them, from the hub on.
func joined(t *testing.T, m *mach.Machine) []int {
	t.Helper()
	var l []int
	for cell := 0; len(l) < 10; cell = l[len(l)-1] - 1 {
		next, err := m.Peek(api.Ref{Cell: cell}, link)
		if err != nil {
			t.Fatal(l, err)
		}
		if next == 0 {
			return l
		}
		l = append(l, next)
	}
	t.Fatal("the links have no end:", l)
	return nil
}

// P71: of api.Joined, own cells are linked by code, each once, and only those that were in a section.
func TestJoin(t *testing.T) {
	m := machine(t, api.Joined, "enter open leave enter enter leave leave", "wait rest gone wait", "fill*9 enter leave gone enter leave")
	if l := joined(t, m); len(l) > 0 {
		t.Error("at the beginning:", l)
	}
	until(t, m, 0, "open")
	if l := joined(t, m); !slices.Equal(l, []int{2}) {
		t.Error("with the first section:", l)
	}
	if !alone(m, 0) || !alone(m, 1) || !slices.Equal(joined(t, m), []int{2}) {
		t.Error("behind it:", joined(t, m))
	}
	if !alone(m, 2) || !slices.Equal(joined(t, m), []int{4, 2}) {
		t.Error("with the other one:", joined(t, m))
	}
}

// P70: whoever joins at once is known, whatever the schedule.
func TestJoinAtOnce(t *testing.T) {
	for seed := range uint32(2000) {
		next := counter(seed)
		threads := 2 + next(5)
		m := machine(t, api.Joined, slices.Repeat([]string{"enter enter leave leave enter leave"}, threads)...)
		someRun(m, next, threads)
		if !inTurns(m, 0, upTo(threads)...) {
			t.Error(seed, "not done")
		}
		l := joined(t, m)
		slices.Sort(l)
		for n := range threads {
			if len(l) != threads || l[n] != n+2 {
				t.Fatal(seed, threads, l)
			}
		}
	}
}

// P71: of the others the links are those at the beginning, and stay.
func TestLinksStay(t *testing.T) {
	for _, f := range []int{api.Fenced, api.Forced, api.Counted} {
		m := machine(t, f, "enter enter leave leave rest wait gone", "enter leave wait rest gone", "wait wait gone")
		for range 300 {
			if l := joined(t, m); !slices.Equal(l, []int{2, 3, 4}) {
				t.Fatal(f, l)
			}
			m.Run([]int{0, 1, 2, 3, 4, 5})
		}
		if !allDone(m, upTo(3)) {
			t.Error(f, "not done")
		}
	}
}
