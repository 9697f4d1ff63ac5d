package stack

import (
	"errors"
	"math"
	"reflect"
	"slices"
	"strings"
	"testing"

	"quiescent/api"
	"quiescent/code"
	"quiescent/grace"
	"quiescent/mach"
	"quiescent/plain"
)

// wantError of Build, and nothing else with it.
func wantError(t *testing.T, f int, l [][]api.Op, want error, at int) {
	t.Helper()
	s, codes, err := Build(f, l)
	wantCode, _ := plain.Code(want)
	if c, place := plain.Code(err); c != wantCode || place != at {
		t.Errorf("%.200v: error %v at %d, not %v at %d", l, err, place, want, at)
	}
	if want != nil && (s.Cells != 0 || s.Init != nil || s.Regs != nil || codes != nil) {
		t.Errorf("%.200v: with an error: %v, %v", l, s, codes)
	}
}

// P91: what an op may not be; of one thread's the first one that is so is told.
func TestErrors(t *testing.T) {
	for words, want := range map[string]error{
		"":                          nil,
		"push1 pop flush":           nil,
		"pop pop flush flush push1": nil,
		"push1000":                  nil,
		"push":                      api.ErrBound,
		"push0":                     api.ErrBound,
		"push-1":                    api.ErrBound,
		"push1001":                  api.ErrBound,
		"push5 push1001 what":       api.ErrBound,
		"what":                      api.ErrShape,
		"what push0":                api.ErrShape,
		"what7":                     api.ErrShape,
		"pop1":                      api.ErrShape,
		"pop-1":                     api.ErrShape,
		"flush1":                    api.ErrShape,
		"flush1 push0":              api.ErrShape,
		"push0 flush1":              api.ErrBound,
		"pop push1 pop what":        api.ErrShape,
		"Push1":                     api.ErrShape,
		"put1":                      api.ErrShape, // what clients do is none of these
		"enter":                     api.ErrShape,
		"leave":                     api.ErrShape,
		"rest":                      api.ErrShape,
		"wait":                      api.ErrShape,
		"read":                      api.ErrShape,
		"drop":                      api.ErrShape,
		"later":                     api.ErrShape,
		"take":                      api.ErrShape,
	} {
		at := -1
		if want != nil {
			at = 0
		}
		for _, f := range flavours() {
			wantError(t, f, opsOf(words), want, at)
		}
	}
}

// P91: texts that are no kind, and numbers far off.
func TestFarOff(t *testing.T) {
	for _, kind := range []string{"", " ", "push ", " pop", "POP", "pop\n", "pop\x00", "pus", "pushs", "push5", "\xff", "ä", strings.Repeat("pop", 1<<16)} {
		for _, n := range []int{0, 1, 5, math.MinInt} {
			wantError(t, api.Fenced, [][]api.Op{{{Kind: kind, N: n}}}, api.ErrShape, 0)
		}
	}
	for _, n := range []int{math.MinInt, math.MinInt + 1, -1 << 32, -1000, 1001, 1 << 32, 1<<32 + 5, math.MaxInt} {
		wantError(t, api.Fenced, [][]api.Op{{{Kind: "push", N: n}}}, api.ErrBound, 0)
		wantError(t, api.Fenced, [][]api.Op{{{Kind: "pop", N: n}}}, api.ErrShape, 0)
		wantError(t, api.Fenced, [][]api.Op{{{Kind: "flush", N: n}}}, api.ErrShape, 0)
	}
}

// P91: the first thread that has an error.
func TestPlaces(t *testing.T) {
	for _, c := range []struct {
		words []string
		want  error
		at    int
	}{
		{[]string{"", "what"}, api.ErrShape, 1},
		{[]string{"push0", "what"}, api.ErrBound, 0},
		{[]string{"pop", "push0", "what"}, api.ErrBound, 1},
		{[]string{"", "", "", "", "push1", "pop push1 flush pop5"}, api.ErrShape, 5},
	} {
		wantError(t, api.Fenced, opsOf(c.words...), c.want, c.at)
	}
}

// P91: how many threads and ops there may be, ahead of all else.
func TestBounds(t *testing.T) {
	pops := func(n int) []api.Op { return opsOf(strings.Repeat("pop ", n))[0] }
	wantError(t, api.Fenced, make([][]api.Op, api.MaxThreads), nil, -1)
	wantError(t, api.Fenced, slices.Repeat([][]api.Op{pops(api.MaxOps)}, api.MaxThreads), nil, -1)
	for _, l := range [][][]api.Op{
		nil, {}, make([][]api.Op, 0, 5), make([][]api.Op, api.MaxThreads+1), make([][]api.Op, 1<<16),
		{pops(api.MaxOps + 1)}, {nil, pops(api.MaxOps + 1)}, {opsOf("what")[0], pops(api.MaxOps + 1)}, {make([]api.Op, api.MaxOps+1)}, {nil, nil, make([]api.Op, 1<<16)},
		slices.Repeat(opsOf("what"), api.MaxThreads+1),
	} {
		wantError(t, api.Fenced, l, api.ErrBound, -1)
		if _, _, err := Build(api.Fenced, l); err != api.ErrBound {
			t.Error("not bare:", err)
		}
	}
}

// P91: flavours that are none, behind all else.
func TestNoFlavour(t *testing.T) {
	for _, f := range []int{math.MinInt, -1, 0, 5, 1 << 32, 1<<32 + 1, math.MaxInt} {
		wantError(t, f, opsOf("push1 pop flush"), api.ErrBound, -1)
		wantError(t, f, opsOf("", ""), api.ErrBound, -1)
		wantError(t, f, nil, api.ErrBound, -1)
		wantError(t, f, opsOf("", "what"), api.ErrShape, 1)
		wantError(t, f, opsOf("push0"), api.ErrBound, 0)
	}
}

// largest: as many ops as may be, of one kind or another.
func largest() []string {
	return []string{strings.Repeat("push1000 ", 20), strings.Repeat("pop ", 20), strings.Repeat("flush ", 20), strings.Repeat("push5 pop ", 10), strings.Repeat("pop flush ", 10), strings.Repeat("push5 pop flush ", 6) + "pop pop"}
}

// P91: a machine of as many threads, with as many cells as there are, at most 20 of them at the beginning; code that may be written, and stops at the end.
func TestMachine(t *testing.T) {
	for _, words := range largest() {
		for threads := 1; threads <= api.MaxThreads; threads++ {
			for _, f := range flavours() {
				s, codes := build(t, f, slices.Repeat(opsOf(words), threads))
				if s.Cells != api.MaxCells || len(s.Init) > 20 || len(codes) != threads {
					t.Error(f, words, s, len(codes))
				}
				for _, l := range codes {
					if _, err := code.Text(l); err != nil || l[len(l)-1].Op != "stop" {
						t.Error(f, words, err)
					}
				}
				machineOf(t, s, codes)
			}
		}
	}
}

// P91, P71: register 5 names one cell in all threads, 7 another one; 6 names each one's own: all apart, and as package grace tells.
func TestCells(t *testing.T) {
	for _, f := range flavours() {
		s, codes := build(t, f, make([][]api.Op, 5))
		hub, _ := grace.Hub(f)
		own, _ := grace.Own(f)
		first, _ := grace.Link(f)
		apart := map[int]bool{}
		for thread := range codes {
			row := s.Regs[thread]
			if row[5] != s.Regs[0][5] || row[7] != s.Regs[0][7] {
				t.Error(f, thread, row)
			}
			apart[row[5]], apart[row[6]], apart[row[7]] = true, true, true
			wantWords(t, s, row[6], own, 1)
		}
		wantWords(t, s, s.Regs[0][7], hub, first)
		if words := s.Init[s.Regs[0][5]-1]; words[0] != 0 || len(apart) != 5+2 {
			t.Error(f, "it is not empty:", words, apart)
		}
	}
}

// wantWords of a cell of that name, but a link.
func wantWords(t *testing.T, s mach.Start, name int, want []int, link int) {
	t.Helper()
	row := append(slices.Clone(s.Init[name-1]), make([]int, api.Words)...)
	want = append(slices.Clone(want), make([]int, api.Words)...)
	for w := range api.Words {
		if w != link && row[w] != want[w] {
			t.Error("word", w, "of", row, "is none of", want)
		}
	}
}

// P91: what one thread does by itself: what it notes, what is there then, and how many cells more are retired.
func TestOneThread(t *testing.T) {
	for _, c := range []struct {
		words       string
		notes, held []int
		retired     int
	}{
		{"", nil, nil, 0},
		{"pop", nil, nil, 0},
		{"flush flush", nil, nil, 0},
		{"pop flush pop", nil, nil, 0},
		{"push5", nil, []int{5}, 0},
		{"push5 push6 push1000", nil, []int{1000, 6, 5}, 0},
		{"push5 pop", []int{5}, nil, 1},
		{"push5 pop pop push1 pop", []int{5, 1}, nil, 2},
		{"push5 pop flush", []int{5}, nil, 0},
		{"push5 flush pop", []int{5}, nil, 1},
		{"push5 push6 pop push7 pop pop flush", []int{6, 7, 5}, nil, 0},
		{"push5 push6 pop flush push7 pop", []int{6, 7}, []int{5}, 1},
		{"push5 push5 pop flush push5", []int{5}, []int{5, 5}, 0},
		{"push1 push2 push3 push4 pop pop pop flush pop flush flush", []int{4, 3, 2, 1}, nil, 0},
	} {
		for _, f := range flavours() {
			m := machine(t, f, c.words)
			was := m.Cells()
			if !alone(m, 0) || m.Faults() > 0 || !slices.Equal(noted(m, 0), c.notes) || !slices.Equal(held(t, m), c.held) || m.Cells() != was+len(c.held)+c.retired {
				t.Error(f, c.words, m.Faults(), m.Marks(), held(t, m), m.Cells()-was)
			}
		}
	}
}

// P91: if there is no cell, nothing is pushed; what was popped is a cell again behind flush, and not ahead of it.
func TestNoCell(t *testing.T) {
	for _, c := range []struct {
		words       string
		room        int // cells that are free at the beginning
		notes, held []int
	}{
		{"push5", 0, nil, nil},
		{"push5 pop flush push6 pop", 0, nil, nil},
		{"push5 push6", 1, nil, []int{5}},
		{"push5 push6 pop push7 flush push8", 1, []int{5}, []int{8}},
		{"push5 push6 push7 pop push8 pop pop flush push9 push1 push2", 2, []int{6, 5}, []int{1, 9}},
	} {
		for _, f := range flavours() {
			s, codes := build(t, f, opsOf(c.words))
			s.Cells = len(s.Init) + c.room
			m := machineOf(t, s, codes)
			if !alone(m, 0) || m.Faults() > 0 || !slices.Equal(noted(m, 0), c.notes) || !slices.Equal(held(t, m), c.held) {
				t.Error(f, c.words, m.Faults(), m.Marks(), held(t, m))
			}
		}
	}
}

// P91: so it is where all cells of the greatest machine are given.
func TestFull(t *testing.T) {
	for _, f := range flavours() {
		m := machine(t, f, slices.Repeat([]string{strings.Repeat("push7 ", api.MaxOps)}, api.MaxThreads)...)
		room := api.MaxCells - m.Cells()
		if !inTurns(m, api.MaxThreads) || m.Faults() > 0 || m.Cells() != api.MaxCells || len(held(t, m)) != room {
			t.Error(f, m.Faults(), m.Cells(), held(t, m))
		}
	}
}

// P91: flush frees what was retired by this thread, and nothing else.
func TestFlushIsOnesOwn(t *testing.T) {
	for _, f := range flavours() {
		m := machine(t, f, "push1 push2 push3 push4 pop", "pop", "pop pop flush", "flush")
		was := m.Cells()
		for thread, want := range []int{4, 4} {
			if !alone(m, thread) || m.Cells() != was+want || m.Faults() > 0 {
				t.Error(f, "behind thread", thread, m.Cells()-was, "cells more", m.Faults())
			}
		}
		if !inTurns(m, 4) || m.Cells() != was+2 || m.Faults() > 0 {
			t.Error(f, m.Cells()-was, "cells more", m.Faults())
		}
		if all := [][]int{noted(m, 0), noted(m, 1), noted(m, 2)}; !reflect.DeepEqual(all, [][]int{{4}, {3}, {2, 1}}) {
			t.Error(f, all)
		}
	}
}

// P91: pop stands in a section: where one has found a node, no flush ends ahead of it; and flush waits, though nothing is retired. Push and pop do not.
func TestWaits(t *testing.T) {
	for _, f := range flavours() {
		for words, waits := range map[string]bool{"flush": true, "pop flush": true, "push5 flush": true, "push5 pop flush": true, "pop pop pop": false, "push5 push6 pop": false} {
			m := machine(t, f, "pop", words, "push1 push2")
			alone(m, 2)
			untilFound(t, m, 0)
			if over := alone(m, 1); over == waits {
				t.Error(f, words, "is over while a section is open:", over)
			}
			if !inTurns(m, 3) || m.Faults() > 0 {
				t.Error(f, words, "is not done", m.Faults())
			}
		}
	}
}

// untilFound: the thread goes on up to where it has found the top, which others may take now.
func untilFound(t *testing.T, m *mach.Machine, thread int) {
	t.Helper()
	for range 300 {
		if name := reg(t, m, thread, 0); name > 0 && name == word(t, m, reg(t, m, thread, 5), 0) {
			return
		}
		m.Step(thread)
	}
	t.Fatal("thread", thread, "does not look at the top")
}

// P91: behind its last op a thread is gone: nobody waits for it, though it never rests.
func TestGone(t *testing.T) {
	for _, f := range flavours() {
		for _, words := range []string{"", "push5", "pop", "push5 pop", "push5 pop pop push6"} {
			m := machine(t, f, words, "push1 pop flush push2 pop flush")
			if !alone(m, 0) || !alone(m, 1) || m.Faults() > 0 {
				t.Error(f, words, m.Done(0), m.Done(1), m.Faults())
			}
		}
		m := machine(t, f, "flush", "")
		if !alone(m, 1) || !alone(m, 0) {
			t.Error(f, "one that has no ops is waited for")
		}
	}
}

// P91, P70: a flush that waits for a thread ends behind its pop, though that one is not done.
func TestFlushEndsBehindPop(t *testing.T) {
	for _, f := range flavours() {
		m := machine(t, f, "pop pop pop pop push5 pop", "flush")
		for i := 0; i < 3000 && len(held(t, m)) == 0; i++ {
			m.Run([]int{0, 1})
		}
		if m.Done(0) || !alone(m, 1) || m.Faults() > 0 {
			t.Error(f, m.Done(0), m.Done(1), m.Faults())
		}
	}
}

// P91: codes use registers 0 to 4 alone.
func TestRegisters(t *testing.T) {
	for _, words := range largest() {
		for _, f := range flavours() {
			s, codes := build(t, f, opsOf(words))
			m := machineOf(t, s, codes)
			for range 3000 {
				m.Step(0)
				for r := 5; r < api.Registers; r++ {
					if v := reg(t, m, 0, r); v != s.Regs[0][r] {
						t.Fatal(f, words, "register", r, "is", v)
					}
				}
			}
			if !m.Done(0) || m.Step(0) != api.ErrDone {
				t.Error(f, words)
			}
		}
	}
}

// P2, P4: the same is built from the same, new each time, and what is handed over stays.
func TestNewMachines(t *testing.T) {
	for _, f := range flavours() {
		whole := opsOf("push5 pop flush what")[0]
		l := [][]api.Op{whole[:3], opsOf("pop push6")[0], opsOf("what")[0]}
		was := slices.Clone(whole)
		s, codes := build(t, f, l[:2])
		again, others := build(t, f, l[:2])
		if !reflect.DeepEqual(s, again) || !reflect.DeepEqual(codes, others) {
			t.Error(f, "another one:", s, again)
		}
		for _, rows := range [][][]int{s.Init, s.Regs} {
			for _, row := range rows {
				for i := range row {
					row[i] = 99
				}
				_ = append(row, 99)
			}
		}
		for _, code := range codes {
			clear(code)
			_ = append(code, api.Instr{Op: "force"})
		}
		third, more := build(t, f, l[:2])
		if !reflect.DeepEqual(third, again) || !reflect.DeepEqual(more, others) || !slices.Equal(whole, was) {
			t.Error(f, "it is shared:", third, again)
		}
	}
}

// P91: an error's place is told by an api.Fault that wraps it.
func TestFault(t *testing.T) {
	_, _, err := Build(api.Fenced, opsOf("pop", "pop", "flush7"))
	var fault *api.Fault
	if !errors.As(err, &fault) || fault.At != 2 || fault.Err != api.ErrShape || !errors.Is(err, api.ErrShape) {
		t.Error(err)
	}
}
