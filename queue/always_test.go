package queue

import (
	"fmt"
	"maps"
	"slices"
	"strconv"
	"strings"
	"testing"

	"quiescent/api"
	"quiescent/mach"
	"quiescent/threads"
	"quiescent/walk"
)

// P102: in no way is there a fault.
func TestAllWays(t *testing.T) {
	for _, words := range [][]string{
		{"put1", "put2"},
		{"take", "take"},
		{"put1 take", "take"},
		{"put1 take", "put2 take"},
		{"put1 put2", "take take"},
		{"put1 put2 take", "take take"},
		{"put1 take put2", "take put3"},
		{"put1", "take take", ""},
		{"put1", "put2", "take"},
		{"put1", "take", "take"},
		{"put1", "put2", "put3"},
		{"put1 put2", "take", "take"},
	} {
		s, codes := build(t, opsOf(words...))
		told, err := walk.All(s, codes, api.MaxStates)
		if told.Fault || told.Ends == 0 || err != nil {
			t.Error(words, told, err)
		}
	}
}

// broken machine: op makes code of some ops in the place of their own.
func broken(t *testing.T, l [][]api.Op, instead func(x api.Op) ([]api.Instr, bool)) (mach.Start, [][]api.Instr) {
	t.Helper()
	s, codes, err := threads.Bare(l, func(x api.Op) ([]api.Instr, error) {
		if code, ok := instead(x); ok {
			return code, nil
		}
		return op(x)
	}, []int{}, []int{1, 1})
	if err != nil {
		t.Fatal(err)
	}
	return s, codes
}

// open take has no lock.
func open(x api.Op) ([]api.Instr, bool) {
	return slices.Concat(take("a", "d"), note()), x.Kind == "take"
}

// hasty put looks for the last one, and becomes it behind that.
func hasty(x api.Op) ([]api.Instr, bool) {
	return threads.New(x.N,
		api.Instr{Op: "load", A: spare, B: root, C: last},
		api.Instr{Op: "store", A: root, B: node, C: last},
		api.Instr{Op: "store", A: spare, B: node, C: next},
		api.Instr{Op: "fence"},
	), x.Kind == "put"
}

// shy take does not wait for the first one's link.
func shy(x api.Op) ([]api.Instr, bool) {
	l, _ := Take("take")
	for i, y := range l {
		if y.Op == "zero" && y.A == node {
			l[i].To = "taked"
		}
	}
	return slices.Concat(l, note()), x.Kind == "take"
}

// late put leaves its link to others' drains.
func late(x api.Op) ([]api.Instr, bool) {
	l := put()
	l[3] = api.Instr{Op: "store", A: spare, B: link, C: next}
	return threads.New(x.N, l...), x.Kind == "put"
}

// outcome of a machine at its end, or of a model: what each thread has taken, and what is there.
func outcome(taken [][]int, held []int) string { return fmt.Sprint(taken, held) }

// models tells all outcomes of ops that are done one by one, in whatever order, but each thread's in its own.
func models(l [][]api.Op) map[string]int {
	all := map[string]int{}
	var goOn func(at []int, taken [][]int, held []int)
	goOn = func(at []int, taken [][]int, held []int) {
		done := true
		for thread, ops := range l {
			if at[thread] == len(ops) {
				continue
			}
			done = false
			next, more, there := slices.Clone(at), slices.Clone(taken), slices.Clone(held)
			switch x := ops[at[thread]]; {
			case x.Kind == "put":
				there = append(there, x.N)
			case len(held) > 0:
				more[thread], there = append(slices.Clone(taken[thread]), held[0]), there[1:]
			}
			next[thread]++
			goOn(next, more, there)
		}
		if done {
			all[outcome(taken, held)]++
		}
	}
	goOn(make([]int, len(l)), make([][]int, len(l)), nil)
	return all
}

// outcomes of all ways, and whether one of them has a fault.
func outcomes(t *testing.T, m *mach.Machine, threads int) (map[string]int, bool) {
	t.Helper()
	all, fault := map[string]int{}, false
	allEnds(t, m, threads, func(m *mach.Machine, end bool) {
		fault = fault || m.Faults() > 0
		if !end || m.Faults() > 0 {
			return
		}
		taken := make([][]int, threads)
		for thread := range threads {
			taken[thread] = noted(m, thread)
		}
		all[outcome(taken, held(t, m))]++
	})
	return all, fault
}

func sameKeys(a, b map[string]int) bool {
	return slices.Equal(slices.Sorted(maps.Keys(a)), slices.Sorted(maps.Keys(b)))
}

// P100, P102: what all ways come to is what may come of ops that are done at once, one by one: no more, and no less.
func TestOutcomes(t *testing.T) {
	for _, words := range [][]string{
		{"put1 take", "take"},
		{"put1 put2", "take"},
		{"put1", "put2"},
		{"put1 take", "put2"},
		{"put1", "take take"},
		{"put1 put2", "take take"},
		{"put1 take", "put2 take"},
		{"put1 put2 take", "take"},
		{"put1 put2", "put3 take take"},
		{"take", "take"},
		{"put1", "take", "take"},
		{"put1", "put2", "take"},
		{"put1", "put2", "put3"},
		{"put1 put2", "take", "take"},
	} {
		l := opsOf(words...)
		got, fault := outcomes(t, machine(t, words...), len(l))
		if want := models(l); fault || !sameKeys(got, want) {
			t.Error(words, fault, "outcomes:", slices.Sorted(maps.Keys(got)), "not", slices.Sorted(maps.Keys(want)))
		}
	}
}

// P100, P102: where a part is missing, there are faults, or other outcomes, so that the ones above would tell.
func TestOutcomesOfBroken(t *testing.T) {
	for name, c := range map[string]struct {
		instead func(x api.Op) ([]api.Instr, bool)
		words   []string
	}{
		"open":  {open, []string{"put1 take", "take"}},
		"hasty": {hasty, []string{"put1", "put2"}},
		"shy":   {shy, []string{"put1", "put2 take"}},
	} {
		l := opsOf(c.words...)
		s, codes := broken(t, l, c.instead)
		got, fault := outcomes(t, machineOf(t, s, codes), len(l))
		if !fault && sameKeys(got, models(l)) {
			t.Error(name, "cannot be told")
		}
	}
}

// P100: what has been put is found, though nobody drains.
func TestNobodyDrains(t *testing.T) {
	l := opsOf("put1 put2", "take take")
	m := machine(t, "put1 put2", "take take")
	if !alone(m, 0) || !alone(m, 1) || !slices.Equal(noted(m, 1), []int{1, 2}) {
		t.Error(m.Marks())
	}
	s, codes := broken(t, l, late)
	m = machineOf(t, s, codes)
	if alone(m, 0); alone(m, 1) && len(m.Marks()) == 2 {
		t.Error("a late link cannot be told")
	}
}

// someThreads of some ops; what is put has a number of its own, and they rise in each thread. From tells by whom each number is put.
func someThreads(next func(n int) int) (words []string, from []int) {
	kinds := []string{"put", "put put", "put take", "take", "take take", "put put take", "take put"}
	for thread := range 1 + next(api.MaxThreads) {
		var l []string
		for len(l) < 1+next(api.MaxOps-2) {
			for _, kind := range strings.Fields(kinds[next(len(kinds))]) {
				if kind == "put" {
					from = append(from, thread)
					kind += strconv.Itoa(len(from))
				}
				l = append(l, kind)
			}
		}
		words = append(words, strings.Join(l, " "))
	}
	return words, from
}

// someRun of a machine: now and then a thread is stopped where it has changed the queue, and others go on.
func someRun(m *mach.Machine, next func(n int) int, threads int) {
	numbers := 2 * threads
	if next(4) == 0 { // nobody drains
		numbers = threads
	}
	long := 1 << next(8)
	for range 60 {
		stopped := next(threads)
		change(m, stopped)
		steps(m, stopped, next(3))
		for range next(12) {
			n := next(numbers)
			for range 1 + next(long) {
				if n%threads != stopped {
					m.Run([]int{n})
				}
			}
		}
	}
}

// change the queue: the thread goes on alone up to where a word of the root is another one, if it comes there.
func change(m *mach.Machine, thread int) {
	was := rootWords(m)
	for range 60 {
		m.Step(thread)
		if rootWords(m) != was {
			return
		}
	}
}

func rootWords(m *mach.Machine) (l [3]int) {
	name, _ := m.Reg(0, root)
	for w := range l {
		l[w], _ = m.Peek(api.Ref{Cell: name - 1}, w)
	}
	return l
}

// wantOrder of what each thread has taken: of one thread's puts, in the order in which they were put.
func wantOrder(t *testing.T, m *mach.Machine, from []int) {
	t.Helper()
	seen := map[[2]int]int{}
	for _, x := range m.Marks() {
		if x.N < 1 || x.N > len(from) {
			t.Error("nobody has put", x.N)
			continue
		}
		who := [2]int{x.Thread, from[x.N-1]}
		if x.N <= seen[who] {
			t.Error("thread", x.Thread, "takes", x.N, "behind", seen[who])
		}
		seen[who] = x.N
	}
}

// faulty tells if such a run has a fault, or loses or doubles what was put, or is not done.
func faulty(t *testing.T, m *mach.Machine, words []string, from []int) bool {
	t.Helper()
	was := m.Cells()
	for range 5 {
		inTurns(m, len(words))
	}
	if !allDone(m, len(words)) || m.Faults() > 0 {
		return true
	}
	there := held(t, m)
	all := sorted(notedBy(m), there)
	if len(slices.Compact(slices.Clone(all))) < len(all) || m.Cells() > was+len(from) {
		return true
	}
	return len(all) != len(from) && len(from) <= api.MaxCells-2 // there are cells enough, but for the greatest ones
}

// P102: whatever the schedule: no fault, each that is put is taken once, or there still; nothing else is kept; and the order.
func TestSomeRuns(t *testing.T) {
	taken, left := 0, 0
	for seed := range uint32(1500) {
		next := counter(seed)
		words, from := someThreads(next)
		m := machine(t, words...)
		was := m.Cells()
		someRun(m, next, len(words))
		if faulty(t, m, words, from) || m.Cells() != was+len(held(t, m)) {
			t.Fatal(seed, strings.Join(words, "\n"), m.Faults(), m.Marks(), held(t, m), m.Cells()-was)
		}
		wantOrder(t, m, from)
		wantWhole(t, m)
		taken += len(m.Marks())
		left += len(held(t, m))
	}
	if taken < 10000 || left < 2000 {
		t.Error("too little is done:", taken, left)
	}
}

// P102: where a part is missing, there are faults, or something is lost, so that the schedules would tell.
func TestSomeRunsOfBroken(t *testing.T) {
	for name, instead := range map[string]func(x api.Op) ([]api.Instr, bool){"open": open, "hasty": hasty} {
		faults := 0
		for seed := range uint32(200) {
			next := counter(seed)
			words, from := someThreads(next)
			s, codes := broken(t, opsOf(words...), instead)
			m := machineOf(t, s, codes)
			someRun(m, next, len(words))
			if faulty(t, m, words, from) {
				faults++
			}
		}
		if faults < 20 {
			t.Error(name, "too few have faults:", faults)
		}
	}
}

// P102: the greatest machines are done, too, and nothing is lost.
func TestGreatest(t *testing.T) {
	for _, words := range largest() {
		for _, script := range [][]int{nil, slices.Repeat([]int{0}, 9), slices.Repeat([]int{3, 1}, 77)} {
			m := machine(t, slices.Repeat([]string{words}, api.MaxThreads)...)
			was := m.Cells()
			m.Run(script)
			if !inTurns(m, api.MaxThreads) || m.Faults() > 0 || m.Cells() != was+len(held(t, m)) {
				t.Error(words, m.Faults(), m.Cells()-was)
			}
			wantWhole(t, m)
		}
	}
}

// P102: where each thread puts ahead of its takes, and takes no more than it has put, no take finds the queue empty.
func TestNoneIsLeft(t *testing.T) {
	for seed := range uint32(300) {
		next := counter(seed)
		words := []string{"put1 put2 take put3 take take", "put4 take put5 take", "put6 put7 take take put8 take"}
		m := machine(t, words...)
		was := m.Cells()
		someRun(m, next, len(words))
		if !inTurns(m, len(words)) || m.Faults() > 0 || m.Cells() != was || !slices.Equal(sorted(notedBy(m)), []int{1, 2, 3, 4, 5, 6, 7, 8}) {
			t.Error(seed, m.Marks(), m.Faults(), m.Cells()-was)
		}
	}
}
