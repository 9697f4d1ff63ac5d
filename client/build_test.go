package client

import (
	"errors"
	"math"
	"reflect"
	"slices"
	"strings"
	"testing"

	"quiescent/api"
	"quiescent/arena"
	"quiescent/code"
	"quiescent/grace"
	"quiescent/mach"
)

// largest clients: of as many threads and ops as may be, of one kind or another.
func largest() []string {
	return []string{
		strings.Repeat("flush ", 20), strings.Repeat("wait ", 20), strings.Repeat("rest ", 20), strings.Repeat("put5 later ", 10), strings.Repeat("put1000 drop ", 10),
		strings.Repeat("enter ", 10) + strings.Repeat("leave ", 10), strings.Repeat("enter read leave ", 6), "enter " + strings.Repeat("read ", 18) + "leave",
		"rest enter enter read leave read leave wait put5 later put6 later flush put7 wait enter drop read leave",
	}
}

// P82: Check's error first, then that of the flavour; with both, nothing else.
func TestBuildErrors(t *testing.T) {
	for _, f := range []int{math.MinInt, -1, 0, 5, 1 << 32, 1<<32 + 1, math.MaxInt} {
		for _, c := range []struct {
			l    [][]api.Op
			want error
			at   int
		}{
			{clientOf("enter leave"), api.ErrBound, -1},
			{clientOf("", ""), api.ErrBound, -1},
			{clientOf("drop"), api.ErrNone, 0},
			{clientOf("", "what"), api.ErrShape, 1},
			{nil, api.ErrBound, -1},
		} {
			s, codes, err := Build(f, c.l)
			var fault *api.Fault
			if !errors.Is(err, c.want) || errors.As(err, &fault) != (c.at >= 0) || fault != nil && fault.At != c.at {
				t.Error(f, c.l, err)
			}
			if s.Cells != 0 || s.Init != nil || s.Regs != nil || codes != nil {
				t.Error(f, c.l, s, codes)
			}
		}
	}
}

// P82: a machine of as many threads, with as many cells as there are, at most 20 of them at the beginning; code that may be written.
func TestMachine(t *testing.T) {
	for _, words := range largest() {
		for threads := 1; threads <= api.MaxThreads; threads++ {
			for _, f := range flavours() {
				s, codes := build(t, f, slices.Repeat(clientOf(words), threads))
				if s.Cells != api.MaxCells || len(s.Init) > 20 || len(codes) != threads {
					t.Error(f, words, s, len(codes))
				}
				for _, l := range codes {
					if _, err := code.Text(l); err != nil {
						t.Error(f, words, err)
					}
				}
				machineOf(t, s, codes)
			}
		}
	}
}

// cell that a register names at the beginning.
func cell(t *testing.T, s mach.Start, thread, register int) api.Ref {
	t.Helper()
	r, err := arena.Ref(s.Regs[thread][register])
	if err != nil || r.Gen != 0 || r.Cell >= len(s.Init) {
		t.Fatal("register", register, "of thread", thread, "names", r, err)
	}
	return r
}

// P82: at the beginning one cell is published, whose word 0 is 1; all threads find it by register 5.
func TestPublished(t *testing.T) {
	for _, f := range flavours() {
		s, codes := build(t, f, clientOf("", "enter read leave", "put5", ""))
		m := machineOf(t, s, codes)
		for thread := range codes {
			if cell(t, s, thread, 5) != cell(t, s, 0, 5) {
				t.Error(f, "thread", thread, "has a place of its own")
			}
		}
		name, err := m.Peek(cell(t, s, 0, 5), 0)
		if err != nil {
			t.Fatal(f, err)
		}
		r, _ := arena.Ref(name)
		if v, err := m.Peek(r, 0); v != 1 || err != nil {
			t.Error(f, r, v, err)
		}
	}
}

// P82, P71: register 7 names the hub, register 6 a cell of the thread's own; these are as package grace tells, and linked so.
func TestGraceCells(t *testing.T) {
	for _, f := range flavours() {
		hub, _ := grace.Hub(f)
		own, _ := grace.Own(f)
		first, _ := grace.Link(f)
		s, codes := build(t, f, make([][]api.Op, 5))
		owns := map[int]int{}
		for thread := range codes {
			if cell(t, s, thread, 7) != cell(t, s, 0, 7) {
				t.Error(f, "thread", thread, "has a hub of its own")
			}
			owns[cell(t, s, thread, 6).Cell] = thread
			wantWords(t, s.Init[cell(t, s, thread, 6).Cell], own, 1)
		}
		others := []int{cell(t, s, 0, 7).Cell, cell(t, s, 0, 5).Cell}
		wantWords(t, s.Init[others[0]], hub, first)
		for _, n := range append(others, s.Init[others[1]][0]-1) {
			owns[n] = -1
		}
		if len(owns) != 5+3 {
			t.Error(f, "one cell is several things:", owns)
		}
		linked := 0
		for from, word := others[0], first; word >= 0 && s.Init[from][word] > 0 && linked < 99; word = 1 {
			from = s.Init[from][word] - 1
			linked++
			if thread, ok := owns[from]; !ok || thread < 0 {
				t.Error(f, "cell", from, "is linked")
			}
			owns[from] = -1 // each once
		}
		if want := 5; f != api.Joined && linked != want || f == api.Joined && linked != 0 {
			t.Error(f, linked, "are linked")
		}
	}
}

// wantWords of a cell, but a link: what is not told is 0.
func wantWords(t *testing.T, row, want []int, link int) {
	t.Helper()
	for w := range api.Words {
		v, wanted := 0, 0
		if w < len(row) {
			v = row[w]
		}
		if w < len(want) {
			wanted = want[w]
		}
		if w != link && v != wanted {
			t.Error("word", w, "of", row, "is none of", want)
		}
	}
}

// P82: codes use registers 0 to 4 alone, and stop at the end.
func TestRegisters(t *testing.T) {
	for _, words := range largest() {
		for _, f := range flavours() {
			s, codes := build(t, f, clientOf(words))
			m := machineOf(t, s, codes)
			for range 5000 {
				m.Step(0)
				for r := 5; r < api.Registers; r++ {
					if v, _ := m.Reg(0, r); v != s.Regs[0][r] {
						t.Fatal(f, words, "register", r, "is", v)
					}
				}
			}
			if last := codes[0][len(codes[0])-1]; last.Op != "stop" || !m.Done(0) || m.Step(0) != api.ErrDone {
				t.Error(f, words, last)
			}
		}
	}
}

// P82: behind its last op a thread is gone: nobody waits for it, though it never rests.
func TestGone(t *testing.T) {
	for _, f := range flavours() {
		for _, words := range []string{"", "enter leave", "enter read leave", "rest", "wait", "put5", "rest enter read leave"} {
			m := machine(t, f, words, "wait put6 wait drop flush", "")
			alone(m, 2)
			if words == "wait" { // it waits for the other one itself
				if !inTurns(m, 3) {
					t.Error(f, "two wait for each other")
				}
				continue
			}
			if !alone(m, 0) || !alone(m, 1) || m.Faults() > 0 {
				t.Error(f, words, m.Done(0), m.Faults())
			}
		}
	}
}

// P2: the same is built from the same.
func TestSame(t *testing.T) {
	for _, f := range flavours() {
		l := clientOf(largest()...)[:api.MaxThreads]
		s, codes := build(t, f, l)
		again, others := build(t, f, clientOf(largest()...)[:api.MaxThreads])
		if !reflect.DeepEqual(s, again) || !reflect.DeepEqual(codes, others) {
			t.Error(f, s, again)
		}
	}
}

// P3, P4: an answer shares nothing with what is handed over, nor with itself, nor with another answer.
func TestNew(t *testing.T) {
	for _, f := range flavours() {
		l := clientOf("put5 wait drop", "enter read leave", "put6 later put7 later flush")
		s, codes := build(t, f, l)
		other, otherCodes := build(t, f, l)
		want, wantCodes := build(t, f, l)
		fill(s, codes)
		if !reflect.DeepEqual(other, want) || !reflect.DeepEqual(otherCodes, wantCodes) || !reflect.DeepEqual(l, clientOf("put5 wait drop", "enter read leave", "put6 later put7 later flush")) {
			t.Error(f, "a change shows")
		}
		for i, row := range slices.Concat(s.Init, s.Regs) {
			for _, n := range row[:cap(row)] {
				if n != i {
					t.Fatal(f, "two rows share memory")
				}
			}
		}
		for i, row := range codes {
			for _, x := range row[:cap(row)] {
				if x.A != i {
					t.Fatal(f, "two codes share memory")
				}
			}
		}
	}
}

// fill each list to the end of its memory with its number.
func fill(s mach.Start, codes [][]api.Instr) {
	for i, row := range slices.Concat(s.Init, s.Regs) {
		for w := range row[:cap(row)] {
			row[:cap(row)][w] = i
		}
	}
	for i, row := range codes {
		for w := range row[:cap(row)] {
			row[:cap(row)][w] = api.Instr{A: i}
		}
	}
}
