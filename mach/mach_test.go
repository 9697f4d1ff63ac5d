package mach

import (
	"errors"
	"math"
	"slices"
	"strings"
	"testing"

	"quiescent/api"
	"quiescent/code"
)

// read codes that have "; " between their instructions.
func read(t *testing.T, texts ...string) [][]api.Instr {
	t.Helper()
	var codes [][]api.Instr
	for _, s := range texts {
		l, err := code.Read(strings.ReplaceAll(s, "; ", "\n"))
		if err != nil {
			t.Fatal(s, err)
		}
		codes = append(codes, l)
	}
	return codes
}

// made is a machine with two cells there, of four, which registers 6 and 7 of each thread name.
func made(t *testing.T, texts ...string) *Machine {
	t.Helper()
	s := Start{Cells: 4, Init: [][]int{{10, 11}, {20}}}
	for range texts {
		s.Regs = append(s.Regs, []int{0, 0, 0, 0, 0, 0, 1, 2})
	}
	m, err := New(s, read(t, texts...))
	if err != nil {
		t.Fatal(texts, err)
	}
	return m
}

func steps(t *testing.T, m *Machine, thread, n int) {
	t.Helper()
	for range n {
		if err := m.Step(thread); err != nil {
			t.Fatal("Step:", thread, err)
		}
	}
}

// finish a thread, step by step.
func finish(t *testing.T, m *Machine, thread int) {
	t.Helper()
	for n := 0; !m.Done(thread); n++ {
		steps(t, m, thread, 1)
		if n > api.MaxSteps {
			t.Fatal("no end:", thread)
		}
	}
}

func wantReg(t *testing.T, m *Machine, thread, r, want int) {
	t.Helper()
	if v, err := m.Reg(thread, r); v != want || err != nil {
		t.Error("Reg:", thread, r, "is", v, err, "want", want)
	}
}

func wantWord(t *testing.T, m *Machine, cell, w, want int) {
	t.Helper()
	if v, err := m.Peek(api.Ref{Cell: cell}, w); v != want || err != nil {
		t.Error("Peek:", cell, w, "is", v, err, "want", want)
	}
}

func wantFaults(t *testing.T, m *Machine, want int) {
	t.Helper()
	if m.Faults() != want {
		t.Error("Faults:", m.Faults(), "want", want)
	}
}

func wantMarks(t *testing.T, m *Machine, want ...Mark) {
	t.Helper()
	if got := m.Marks(); !slices.Equal(got, want) {
		t.Error("Marks:", got, "want", want)
	}
}

func wantWaiting(t *testing.T, m *Machine, want ...int) {
	t.Helper()
	for thread, n := range want {
		if m.Waiting(thread) != n {
			t.Error("Waiting:", thread, "is", m.Waiting(thread), "want", n)
		}
	}
}

// P40: a machine is as its Start says, and all else is 0.
func TestStart(t *testing.T) {
	s := Start{Cells: 4, Init: [][]int{{1, 2, 3, 4}, nil, {4294967295}}, Regs: [][]int{{7, 4294967295}, nil, {1, 2, 3, 4, 5, 6, 7, 8}}}
	m, err := New(s, read(t, "stop", "", "stop", "mark 0"))
	if err != nil {
		t.Fatal(err)
	}
	for cell, words := range [][]int{{1, 2, 3, 4}, {0, 0, 0, 0}, {4294967295, 0, 0, 0}} {
		for w, v := range words {
			wantWord(t, m, cell, w, v)
		}
	}
	if v, err := m.Peek(api.Ref{Cell: 3}, 0); v != 0 || err != api.ErrStale || m.Cells() != 3 {
		t.Error("more is there than Init says:", v, err, m.Cells())
	}
	for thread, registers := range [][]int{{7, 4294967295, 0, 0, 0, 0, 0, 0}, {0, 0, 0, 0, 0, 0, 0, 0}, {1, 2, 3, 4, 5, 6, 7, 8}, {0, 0, 0, 0, 0, 0, 0, 0}} {
		for r, v := range registers {
			wantReg(t, m, thread, r, v)
		}
		if m.Done(thread) != (thread < 3) {
			t.Error("Done:", thread)
		}
	}
	wantWaiting(t, m, 0, 0, 0, 0)
	wantMarks(t, m)
	wantFaults(t, m, 0)
}

// P40: the greatest start of all, and the least.
func TestStartBounds(t *testing.T) {
	most := Start{Cells: api.MaxCells, Init: slices.Repeat([][]int{{1, 2, 3, 4}}, api.MaxCells), Regs: slices.Repeat([][]int{{1, 2, 3, 4, 5, 6, 7, 8}}, api.MaxThreads)}
	long := slices.Repeat([]api.Instr{{Op: "fence"}}, api.MaxCode)
	m, err := New(most, slices.Repeat([][]api.Instr{long}, api.MaxThreads))
	if err != nil {
		t.Fatal(err)
	}
	if m.Cells() != api.MaxCells || m.Faults() != 0 {
		t.Error(m.Cells(), m.Faults())
	}
	for _, s := range []Start{{Cells: 1}, {Cells: 1, Init: [][]int{}, Regs: [][]int{}}} {
		m, err := New(s, [][]api.Instr{nil})
		if err != nil || m.Cells() != 0 || !m.Done(0) {
			t.Error(s, err)
		}
	}
}

// P40: ErrBound, ahead of what is wrong with a code.
func TestStartErrors(t *testing.T) {
	word := func(n int) [][]int { return [][]int{{0, n}} }
	one := [][]api.Instr{{{Op: "stop"}}}
	for i, c := range []struct {
		s     Start
		codes [][]api.Instr
	}{
		{Start{}, one}, {Start{Cells: -1}, one}, {Start{Cells: api.MaxCells + 1}, one}, {Start{Cells: math.MinInt}, one}, {Start{Cells: math.MaxInt}, one},
		{Start{Cells: 1}, nil}, {Start{Cells: 1}, [][]api.Instr{}}, {Start{Cells: 1}, make([][]api.Instr, api.MaxThreads+1)},
		{Start{Cells: 1, Init: make([][]int, 2)}, one}, {Start{Cells: api.MaxCells, Init: make([][]int, api.MaxCells+1)}, one},
		{Start{Cells: 2, Init: [][]int{{}, make([]int, api.Words+1)}}, one},
		{Start{Cells: 1, Regs: make([][]int, 2)}, one}, {Start{Cells: 1, Regs: [][]int{make([]int, api.Registers+1)}}, one},
		{Start{Cells: 1, Init: word(-1)}, one}, {Start{Cells: 1, Init: word(1 << 32)}, one}, {Start{Cells: 1, Init: word(math.MinInt)}, one}, {Start{Cells: 1, Init: word(math.MaxInt)}, one},
		{Start{Cells: 1, Regs: word(-1)}, one}, {Start{Cells: 1, Regs: word(1 << 32)}, one}, {Start{Cells: 1, Regs: word(math.MinInt)}, one}, {Start{Cells: 1, Regs: word(math.MaxInt)}, one},
	} {
		wrong := slices.Clone(c.codes)
		for t := range wrong {
			wrong[t] = []api.Instr{{Op: "what"}}
		}
		for _, codes := range [][][]api.Instr{c.codes, wrong} {
			if m, err := New(c.s, codes); m != nil || err != api.ErrBound {
				t.Error(i, m, err)
			}
		}
	}
}

// P40: the first code that is wrong, with its own error alone.
func TestCodeErrors(t *testing.T) {
	good := []api.Instr{{Op: "label", To: "a"}, {Op: "goto", To: "a"}}
	for _, c := range []struct {
		wrong []api.Instr
		want  error
	}{
		{[]api.Instr{{Op: "stop"}, {Op: "what"}}, api.ErrShape},
		{[]api.Instr{{Op: "fence", A: 1}}, api.ErrShape},
		{[]api.Instr{{Op: "stop"}, {Op: "stop"}, {Op: "mark", A: 8}}, api.ErrBound},
		{[]api.Instr{{Op: "label", To: "A"}}, api.ErrName},
		{[]api.Instr{{Op: "goto", To: "b"}}, api.ErrNone},
		{make([]api.Instr, api.MaxCode+1), api.ErrBound},
	} {
		for at := range 3 {
			codes := [][]api.Instr{good, nil, good, {{}}}
			codes[at] = c.wrong
			m, err := New(Start{Cells: 1}, codes)
			f, ok := err.(*api.Fault)
			if m != nil || !ok || f.At != at || f.Err != c.want {
				t.Errorf("%d: %#v, want %v", at, err, c.want)
			}
			if !errors.Is(err, c.want) {
				t.Error(err)
			}
		}
	}
}

// P4: what is handed over is not changed, and a later change of it does not show.
func TestStartNotKept(t *testing.T) {
	words, registers := []int{1, 2, 99, 99}, []int{1, 5, 99}
	s := Start{Cells: 1, Init: [][]int{words[:2]}, Regs: [][]int{registers[:2]}}
	codes := read(t, "goto a; label b; mark 1; stop; label a; goto b")
	was := slices.Clone(codes[0])
	m, err := New(s, codes)
	if err != nil {
		t.Fatal(err)
	}
	codes[0][0], codes[0][2], codes[0][4] = api.Instr{Op: "stop"}, api.Instr{Op: "what", A: 99}, api.Instr{}
	words[0], registers[1] = 7, 7
	s.Init[0], s.Regs[0] = nil, nil
	finish(t, m, 0)
	wantMarks(t, m, Mark{N: 5})
	wantWord(t, m, 0, 0, 1)
	wantWord(t, m, 0, 2, 0)
	wantReg(t, m, 0, 2, 0)

	codes[0] = slices.Clone(was)
	m, _ = New(s, codes)
	finish(t, m, 0)
	if !slices.Equal(codes[0], was) || words[3] != 99 || registers[2] != 99 {
		t.Error("what was handed over has changed")
	}
}

// P1: what New answers with an error has no thread and no cell, and does not panic.
func TestNoMachine(t *testing.T) {
	m, _ := New(Start{}, nil)
	for i, err := range []error{m.Step(0), m.Drain(0)} {
		if err != api.ErrBound {
			t.Error(i, err)
		}
	}
	if v, err := m.Reg(0, 0); v != 0 || err != api.ErrBound {
		t.Error(v, err)
	}
	if v, err := m.Peek(api.Ref{}, 0); v != 0 || err != api.ErrStale {
		t.Error(v, err)
	}
	if m.Copy() != nil || m.Marks() != nil || m.Faults() != 0 || m.Cells() != 0 || !m.Done(0) || m.Run([]int{0, 1}) != 0 {
		t.Error("a machine that is none has something")
	}
}

// An error loses its place, and no more than that.
func TestBare(t *testing.T) {
	var none *api.Fault
	for _, c := range []struct{ err, want error }{
		{nil, nil},
		{api.ErrName, api.ErrName},
		{&api.Fault{At: 3, Err: api.ErrName}, api.ErrName},
		{&api.Fault{At: 3}, nil},
		{none, none},
	} {
		if got := Bare(c.err); got != c.want {
			t.Error(c.err == nil, got, c.want)
		}
	}
}
