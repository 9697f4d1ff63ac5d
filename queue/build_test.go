package queue

import (
	"errors"
	"math"
	"reflect"
	"slices"
	"strings"
	"testing"

	"quiescent/api"
	"quiescent/code"
	"quiescent/plain"
)

// wantError of Build, and nothing else with it.
func wantError(t *testing.T, l [][]api.Op, want error, at int) {
	t.Helper()
	s, codes, err := Build(l)
	wantCode, _ := plain.Code(want)
	if c, place := plain.Code(err); c != wantCode || place != at {
		t.Errorf("%.200v: error %v at %d, not %v at %d", l, err, place, want, at)
	}
	if want != nil && (s.Cells != 0 || s.Init != nil || s.Regs != nil || codes != nil) {
		t.Errorf("%.200v: with an error: %v, %v", l, s, codes)
	}
}

// P101: what an op may not be; of one thread's the first one that is so is told.
func TestErrors(t *testing.T) {
	for words, want := range map[string]error{
		"":                    nil,
		"put1 take":           nil,
		"take take put1":      nil,
		"put1000":             nil,
		"put":                 api.ErrBound,
		"put0":                api.ErrBound,
		"put-1":               api.ErrBound,
		"put1001":             api.ErrBound,
		"put5 put1001 what":   api.ErrBound,
		"what":                api.ErrShape,
		"what put0":           api.ErrShape,
		"what7":               api.ErrShape,
		"take1":               api.ErrShape,
		"take-1":              api.ErrShape,
		"take1 put0":          api.ErrShape,
		"put0 take1":          api.ErrBound,
		"take put1 take what": api.ErrShape,
		"Put1":                api.ErrShape,
		"push1":               api.ErrShape, // what clients and stacks do is none of these
		"pop":                 api.ErrShape,
		"flush":               api.ErrShape,
		"enter":               api.ErrShape,
		"leave":               api.ErrShape,
		"rest":                api.ErrShape,
		"wait":                api.ErrShape,
		"read":                api.ErrShape,
		"drop":                api.ErrShape,
		"later":               api.ErrShape,
	} {
		at := -1
		if want != nil {
			at = 0
		}
		wantError(t, opsOf(words), want, at)
	}
}

// P101: texts that are no kind, and numbers far off.
func TestFarOff(t *testing.T) {
	for _, kind := range []string{"", " ", "put ", " take", "TAKE", "take\n", "take\x00", "pu", "puts", "put5", "\xff", "ä", strings.Repeat("take", 1<<16)} {
		for _, n := range []int{0, 1, 5, math.MinInt} {
			wantError(t, [][]api.Op{{{Kind: kind, N: n}}}, api.ErrShape, 0)
		}
	}
	for _, n := range []int{math.MinInt, math.MinInt + 1, -1 << 32, -1000, 1001, 1 << 32, 1<<32 + 5, math.MaxInt} {
		wantError(t, [][]api.Op{{{Kind: "put", N: n}}}, api.ErrBound, 0)
		wantError(t, [][]api.Op{{{Kind: "take", N: n}}}, api.ErrShape, 0)
	}
}

// P101: the first thread that has an error, told by an api.Fault that wraps it.
func TestPlaces(t *testing.T) {
	for _, c := range []struct {
		words []string
		want  error
		at    int
	}{
		{[]string{"", "what"}, api.ErrShape, 1},
		{[]string{"put0", "what"}, api.ErrBound, 0},
		{[]string{"take", "put0", "what"}, api.ErrBound, 1},
		{[]string{"", "", "", "", "put1", "take put1 take take5"}, api.ErrShape, 5},
	} {
		wantError(t, opsOf(c.words...), c.want, c.at)
		_, _, err := Build(opsOf(c.words...))
		var fault *api.Fault
		if !errors.As(err, &fault) || fault.At != c.at || fault.Err != c.want || !errors.Is(err, c.want) {
			t.Error(c.words, err)
		}
	}
}

// P101: how many threads and ops there may be, ahead of all else.
func TestBounds(t *testing.T) {
	takes := func(n int) []api.Op { return opsOf(strings.Repeat("take ", n))[0] }
	wantError(t, make([][]api.Op, api.MaxThreads), nil, -1)
	wantError(t, slices.Repeat([][]api.Op{takes(api.MaxOps)}, api.MaxThreads), nil, -1)
	for _, l := range [][][]api.Op{
		nil, {}, make([][]api.Op, 0, 5), make([][]api.Op, api.MaxThreads+1), make([][]api.Op, 1<<16),
		{takes(api.MaxOps + 1)}, {nil, takes(api.MaxOps + 1)}, {opsOf("what")[0], takes(api.MaxOps + 1)}, {make([]api.Op, api.MaxOps+1)}, {nil, nil, make([]api.Op, 1<<16)},
		slices.Repeat(opsOf("what"), api.MaxThreads+1),
	} {
		wantError(t, l, api.ErrBound, -1)
		if _, _, err := Build(l); err != api.ErrBound {
			t.Error("not bare:", err)
		}
	}
}

// largest: as many ops as may be, of one kind or another.
func largest() []string {
	return []string{strings.Repeat("put1000 ", 20), strings.Repeat("take ", 20), strings.Repeat("put5 take ", 10), strings.Repeat("take put7 ", 10), strings.Repeat("put5 ", 10) + strings.Repeat("take ", 10)}
}

// P101: a machine of as many threads, with as many cells as there are, at most 20 of them at the beginning; code that may be written, and stops at the end. Register 5 names one cell in all threads: that of an empty queue.
func TestMachine(t *testing.T) {
	for _, words := range largest() {
		for threads := 1; threads <= api.MaxThreads; threads++ {
			s, codes := build(t, slices.Repeat(opsOf(words), threads))
			if s.Cells != api.MaxCells || len(s.Init) > 20 || len(codes) != threads {
				t.Error(words, s, len(codes))
			}
			for thread, l := range codes {
				if _, err := code.Text(l); err != nil || l[len(l)-1].Op != "stop" {
					t.Error(words, err)
				}
				if s.Regs[thread][5] != s.Regs[0][5] {
					t.Error(words, s.Regs)
				}
			}
			m := machineOf(t, s, codes)
			root := reg(t, m, 0, 5)
			ahead := word(t, m, root, 0)
			if ahead == root || word(t, m, root, 1) != ahead || word(t, m, root, 2) != 0 || word(t, m, ahead, 1) != 0 {
				t.Error(words, s.Init)
			}
		}
	}
}

// P101: what one thread does by itself: what it notes, and what is there then. As many cells more are there as nodes.
func TestOneThread(t *testing.T) {
	for _, c := range []struct {
		words       string
		notes, held []int
	}{
		{"", nil, nil},
		{"take", nil, nil},
		{"take take", nil, nil},
		{"put5", nil, []int{5}},
		{"put5 put6 put1000", nil, []int{5, 6, 1000}},
		{"put5 take", []int{5}, nil},
		{"put5 take take put1 take", []int{5, 1}, nil},
		{"put5 put6 take put7 take take take", []int{5, 6, 7}, nil},
		{"take put5 put6 take put7", []int{5}, []int{6, 7}},
		{"put5 put5 take put5", []int{5}, []int{5, 5}},
		{"put1 put2 put3 put4 take take take take take put5", []int{1, 2, 3, 4}, []int{5}},
	} {
		m := machine(t, c.words)
		was := m.Cells()
		if !alone(m, 0) || m.Faults() > 0 || !slices.Equal(noted(m, 0), c.notes) || !slices.Equal(held(t, m), c.held) || m.Cells() != was+len(c.held) {
			t.Error(c.words, m.Faults(), m.Marks(), held(t, m), m.Cells()-was)
		}
		wantWhole(t, m)
	}
}

// P101: if there is no cell, nothing is put; behind a take that has taken something, there is one again.
func TestNoCell(t *testing.T) {
	for _, c := range []struct {
		words       string
		room        int // cells that are free at the beginning
		notes, held []int
	}{
		{"put5", 0, nil, nil},
		{"put5 take put6 take", 0, nil, nil},
		{"put5 put6", 1, nil, []int{5}},
		{"put5 put6 take put7 put8", 1, []int{5}, []int{7}},
		{"put5 put6 put7 take take take put8 put9 put1 take", 2, []int{5, 6, 8}, []int{9}},
	} {
		s, codes := build(t, opsOf(c.words))
		s.Cells = len(s.Init) + c.room
		m := machineOf(t, s, codes)
		if !alone(m, 0) || m.Faults() > 0 || !slices.Equal(noted(m, 0), c.notes) || !slices.Equal(held(t, m), c.held) {
			t.Error(c.words, m.Faults(), m.Marks(), held(t, m))
		}
	}
}

// P101: so it is where all cells of the greatest machine are given.
func TestFull(t *testing.T) {
	m := machine(t, slices.Repeat([]string{strings.Repeat("put7 ", api.MaxOps)}, api.MaxThreads)...)
	room := api.MaxCells - m.Cells()
	if !inTurns(m, api.MaxThreads) || m.Faults() > 0 || m.Cells() != api.MaxCells || len(held(t, m)) != room {
		t.Error(m.Faults(), m.Cells(), held(t, m))
	}
}

// P101: a take's node is freed at once: of the greatest machine, too, in each state at most as many cells are there as are needed.
func TestFreed(t *testing.T) {
	m := machine(t, strings.Repeat("put5 take ", 10))
	was := m.Cells()
	for range 3000 {
		m.Step(0)
		if m.Cells() > was+1 {
			t.Fatal(m.Cells()-was, "cells more")
		}
	}
	if !m.Done(0) || m.Cells() != was || len(m.Marks()) != 10 {
		t.Error(m.Cells()-was, m.Marks())
	}
}

// P101: codes use registers 0 to 4 alone; behind its last op a thread stops.
func TestRegisters(t *testing.T) {
	for _, words := range append(largest(), "", "take", "put5") {
		s, codes := build(t, opsOf(words))
		m := machineOf(t, s, codes)
		for range 3000 {
			m.Step(0)
			for r := 5; r < api.Registers; r++ {
				if v := reg(t, m, 0, r); v != s.Regs[0][r] {
					t.Fatal(words, "register", r, "is", v)
				}
			}
		}
		if !m.Done(0) || m.Step(0) != api.ErrDone {
			t.Error(words)
		}
	}
}

// P2, P4: the same is built from the same, new each time, and what is handed over stays.
func TestNewMachines(t *testing.T) {
	whole := opsOf("put5 take take what")[0]
	l := [][]api.Op{whole[:3], opsOf("take put6")[0], opsOf("what")[0]}
	was := slices.Clone(whole)
	s, codes := build(t, l[:2])
	again, others := build(t, l[:2])
	if !reflect.DeepEqual(s, again) || !reflect.DeepEqual(codes, others) {
		t.Error("another one:", s, again)
	}
	for _, rows := range [][][]int{s.Init, s.Regs} {
		for _, row := range rows {
			for i := range row {
				row[i] = 99
			}
			_ = append(row, 99)
		}
	}
	for _, code := range codes {
		clear(code)
		_ = append(code, api.Instr{Op: "force"})
	}
	third, more := build(t, l[:2])
	if !reflect.DeepEqual(third, again) || !reflect.DeepEqual(more, others) || !slices.Equal(whole, was) {
		t.Error("it is shared:", third, again)
	}
}
