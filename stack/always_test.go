package stack

import (
	"fmt"
	"maps"
	"slices"
	"strconv"
	"strings"
	"testing"

	"quiescent/api"
	"quiescent/grace"
	"quiescent/mach"
	"quiescent/threads"
	"quiescent/walk"
)

// P92: in no way is there a fault.
func TestAllWays(t *testing.T) {
	for _, words := range [][]string{
		{"push1", "push2"},
		{"pop", "pop"},
		{"push1 pop", "pop"},
		{"push1 pop flush", "pop"},
		{"push1 pop flush", "push2"},
		{"push1 pop flush", "pop flush"},
		{"push1 push2 pop flush", "pop"},
		{"push1 pop flush push2", "pop"},
		{"push1", "pop flush", ""},
		{"flush", "flush", "push1"},
	} {
		for _, f := range flavours() {
			s, codes := build(t, f, opsOf(words...))
			told, err := walk.All(s, codes, api.MaxStates)
			if told.Fault || told.Ends == 0 || err != nil {
				t.Error(f, words, told, err)
			}
		}
	}
}

// broken machine: op makes code of some ops in the place of their own.
func broken(t *testing.T, f int, l [][]api.Op, op func(x api.Op) ([]api.Instr, bool)) (mach.Start, [][]api.Instr) {
	t.Helper()
	s, codes, err := threads.Build(f, l, func(x api.Op) ([]api.Instr, error) {
		if code, ok := op(x); ok {
			return code, nil
		}
		return flavour(f).op(x)
	}, []int{0})
	if err != nil {
		t.Fatal(err)
	}
	return s, codes
}

// impatient flush does not wait.
func impatient(x api.Op) ([]api.Instr, bool) { return threads.Empty(kept), x.Kind == "flush" }

// open pop is in no section: of api.Counted, where all is in one that does not rest, the thread is gone ahead of it.
func open(f int) func(x api.Op) ([]api.Instr, bool) {
	return func(x api.Op) ([]api.Instr, bool) {
		gone, _ := grace.Gone(f, "gone")
		l, _ := Pop("pop")
		return slices.Concat(gone, l, retire()), x.Kind == "pop"
	}
}

// P92: without a wait, or without a section, there are faults, in some way.
func TestAllWaysOfBroken(t *testing.T) {
	for _, f := range flavours() {
		l := opsOf("push1 pop flush", "pop")
		for name, op := range map[string]func(x api.Op) ([]api.Instr, bool){"impatient": impatient, "open": open(f)} {
			s, codes := broken(t, f, l, op)
			if told, err := walk.All(s, codes, api.MaxStates); !told.Fault || err != nil {
				t.Error(f, name, told, err)
			}
		}
	}
}

// outcome of a machine at its end, or of a model: what each thread has popped, and what is there.
func outcome(popped [][]int, held []int) string { return fmt.Sprint(popped, held) }

// models tells all outcomes of ops that are done one by one, in whatever order, but each thread's in its own.
func models(l [][]api.Op) map[string]int {
	all := map[string]int{}
	var goOn func(at []int, popped [][]int, held []int)
	goOn = func(at []int, popped [][]int, held []int) {
		done := true
		for thread, ops := range l {
			if at[thread] == len(ops) {
				continue
			}
			done = false
			next, more, there := slices.Clone(at), slices.Clone(popped), slices.Clone(held)
			switch x := ops[at[thread]]; {
			case x.Kind == "push":
				there = slices.Concat([]int{x.N}, held)
			case x.Kind == "pop" && len(held) > 0:
				more[thread], there = append(slices.Clone(popped[thread]), held[0]), there[1:]
			}
			next[thread]++
			goOn(next, more, there)
		}
		if done {
			all[outcome(popped, held)]++
		}
	}
	goOn(make([]int, len(l)), make([][]int, len(l)), nil)
	return all
}

// P90, P92: what all ways come to is what may come of ops that are done at once, one by one: no more, and no less.
func TestOutcomes(t *testing.T) {
	for _, words := range [][]string{
		{"push1 pop", "pop"},
		{"push1 push2", "pop"},
		{"push1", "push2"},
		{"push1 pop", "push2"},
		{"push1 pop flush", "pop"},
		{"push1", "pop pop"},
		{"pop", "pop"},
		{"push1", "pop", "pop"},
		{"push1 push2 pop", "pop"},
	} {
		for _, f := range flavours() {
			if f == api.Joined && len(words) > 2 {
				continue // too many states
			}
			l := opsOf(words...)
			got := map[string]int{}
			allEnds(t, machine(t, f, words...), len(l), func(m *mach.Machine, end bool) {
				if m.Faults() > 0 {
					t.Fatal(f, words, "a fault")
				}
				if !end {
					return
				}
				popped := make([][]int, len(l))
				for thread := range l {
					popped[thread] = noted(m, thread)
				}
				got[outcome(popped, held(t, m))]++
			})
			a, b := slices.Sorted(maps.Keys(got)), slices.Sorted(maps.Keys(models(l)))
			if !slices.Equal(a, b) {
				t.Error(f, words, "outcomes:", a, "not", b)
			}
		}
	}
}

// someThreads of some ops; what is pushed has a number of its own.
func someThreads(next func(n int) int) (words []string, pushed []int) {
	kinds := []string{"push", "push", "push pop", "pop", "pop flush", "flush", "pop pop", "push pop flush"}
	for range 1 + next(api.MaxThreads) {
		var l []string
		for len(l) < 1+next(api.MaxOps-2) {
			for _, kind := range strings.Fields(kinds[next(len(kinds))]) {
				if kind == "push" {
					pushed = append(pushed, 1+len(pushed))
					kind += strconv.Itoa(len(pushed))
				}
				l = append(l, kind)
			}
		}
		words = append(words, strings.Join(l, " "))
	}
	return words, pushed
}

// someRun of a machine: now and then a thread is stopped where it has found the top, and others go on.
func someRun(m *mach.Machine, next func(n int) int, threads int) {
	numbers := 2 * threads
	if next(4) == 0 { // nobody drains
		numbers = threads
	}
	long := 1 << next(9)
	for range 60 {
		stopped := next(threads)
		find(m, stopped)
		for range next(3) {
			m.Step(stopped)
		}
		for range next(12) {
			n := next(numbers)
			for range 1 + next(long) {
				if n%threads != stopped {
					m.Run([]int{n})
				}
			}
		}
	}
}

// find the top: the thread goes on alone up to where register 3 comes to name it, if it comes there.
func find(m *mach.Machine, thread int) {
	root, _ := m.Reg(thread, 5)
	for range 300 {
		was, _ := m.Reg(thread, 3)
		m.Step(thread)
		now, _ := m.Reg(thread, 3)
		if top, _ := m.Peek(api.Ref{Cell: root - 1}, 0); now != was && now == top {
			return
		}
	}
}

// listed by all threads: how many cells are retired, and not freed yet.
func listed(t *testing.T, m *mach.Machine, threads int) int {
	t.Helper()
	n := 0
	for thread := range threads {
		m.Run(slices.Repeat([]int{threads + thread}, api.MaxWaits))
		for name := reg(t, m, thread, 4); name > 0; name = word(t, m, name, kept) {
			n++
		}
	}
	return n
}

// P92: whatever the schedule: no fault, each that is pushed is popped once, or there still; nothing else is kept but what is retired and not flushed yet.
func TestSomeRuns(t *testing.T) {
	for _, f := range flavours() {
		popped, freed := 0, 0
		for seed := range uint32(600) {
			next := counter(seed)
			words, pushed := someThreads(next)
			m := machine(t, f, words...)
			was := m.Cells()
			someRun(m, next, len(words))
			for range 10 {
				inTurns(m, len(words))
			}
			if !allDone(m, len(words)) || m.Faults() > 0 {
				t.Fatal(f, seed, strings.Join(words, "\n"), m.Faults())
			}
			all := sorted(notedBy(m), held(t, m))
			if !slices.Equal(all, pushed) { // there are cells enough, but for the greatest ones
				if len(pushed) <= api.MaxCells-was || len(slices.Compact(slices.Clone(all))) < len(all) || slices.ContainsFunc(all, func(n int) bool { return n < 1 || n > len(pushed) }) {
					t.Fatal(f, seed, strings.Join(words, "\n"), notedBy(m), held(t, m))
				}
			}
			if more := m.Cells() - was; more != len(held(t, m))+listed(t, m, len(words)) {
				t.Fatal(f, seed, strings.Join(words, "\n"), more, "cells more")
			}
			popped += len(m.Marks())
			freed += max(0, len(all)-(m.Cells()-was))
		}
		if popped < 3000 || freed < 2000 {
			t.Error(f, "too little is done:", popped, freed)
		}
	}
}

// P92: where these do not wait, or are in no section, there are faults, so that the schedules would tell.
func TestSomeRunsOfBroken(t *testing.T) {
	for _, f := range flavours() {
		for name, op := range map[string]func(x api.Op) ([]api.Instr, bool){"impatient": impatient, "open": open(f)} {
			faults := 0
			for seed := range uint32(600) {
				next := counter(seed)
				words, _ := someThreads(next)
				s, codes := broken(t, f, opsOf(words...), op)
				m := machineOf(t, s, codes)
				someRun(m, next, len(words))
				faults += min(m.Faults(), 1)
			}
			if faults < 20 {
				t.Error(f, name, "too few have faults:", faults)
			}
		}
	}
}

// P92: the greatest machines are done, too, and nothing is lost.
func TestGreatest(t *testing.T) {
	for _, f := range flavours() {
		for _, words := range largest() {
			m := machine(t, f, slices.Repeat([]string{words}, api.MaxThreads)...)
			for range 10 {
				inTurns(m, api.MaxThreads)
			}
			if !allDone(m, api.MaxThreads) || m.Faults() > 0 {
				t.Error(f, words, m.Faults())
			}
		}
	}
}
