package mach

import (
	"math"
	"slices"
	"testing"

	"quiescent/api"
)

// P41, P30: what each instruction makes of registers and words. Register 6 names a cell of words 10 and 11, register 7 one of word 20; "R N" is a register then, "C W N" a word.
func TestInstructions(t *testing.T) {
	const low = "const 0 3; const 1 5; "
	for s, want := range map[string][8]int{
		"const 0 4294967295":            {4294967295, 0, 0, 0, 0, 0, 1, 2},
		"const 6 0":                     {0, 0, 0, 0, 0, 0, 0, 2},
		"move 0 7":                      {2, 0, 0, 0, 0, 0, 1, 2},
		low + "add 2 0 1":               {3, 5, 8, 0, 0, 0, 1, 2},
		low + "add 0 0 0":               {6, 5, 0, 0, 0, 0, 1, 2},
		low + "sub 2 1 0":               {3, 5, 2, 0, 0, 0, 1, 2},
		low + "sub 2 0 1":               {3, 5, 4294967294, 0, 0, 0, 1, 2},
		"sub 1 0 6":                     {0, 4294967295, 0, 0, 0, 0, 1, 2},
		"const 0 4294967295; add 1 0 7": {4294967295, 1, 0, 0, 0, 0, 1, 2},
		"const 0 4294967295; add 0 0 0": {4294967294, 0, 0, 0, 0, 0, 1, 2},
		low + "and 2 0 1":               {3, 5, 1, 0, 0, 0, 1, 2},
		low + "xor 2 0 1":               {3, 5, 6, 0, 0, 0, 1, 2},
		"const 0 4294967295; xor 1 0 6; and 2 0 1":                            {4294967295, 4294967294, 4294967294, 0, 0, 0, 1, 2},
		"load 0 6 0; load 1 6 1; load 2 6 2":                                  {10, 11, 0, 0, 0, 0, 1, 2},
		"load 7 7 0":                                                          {0, 0, 0, 0, 0, 0, 1, 20},
		"store 6 7 3; load 0 6 3; load 1 6 0":                                 {2, 10, 0, 0, 0, 0, 1, 2},
		"store 7 7 0; load 0 7 0":                                             {2, 0, 0, 0, 0, 0, 1, 2},
		low + "swap 1 6 0; load 2 6 0":                                        {3, 10, 5, 0, 0, 0, 1, 2},
		"swap 6 6 1; const 6 1; load 0 6 1":                                   {1, 0, 0, 0, 0, 0, 1, 2},
		low + "store 6 0 0; swap 1 6 0; load 2 6 0":                           {3, 3, 5, 0, 0, 0, 1, 2},
		"const 0 10; const 1 9; cas 6 0 0; load 2 6 0":                        {10, 9, 9, 0, 0, 0, 1, 2},
		"const 0 9; const 1 8; cas 6 0 0; load 2 6 0":                         {10, 8, 10, 0, 0, 0, 1, 2},
		"const 0 11; const 1 9; cas 6 0 1; load 2 6 1":                        {11, 9, 9, 0, 0, 0, 1, 2},
		"const 0 4; store 6 0 0; const 1 9; cas 6 0 0; load 2 6 0":            {4, 9, 9, 0, 0, 0, 1, 2},
		"const 5 10; cas 6 5 0; load 0 6 0":                                   {1, 0, 0, 0, 0, 10, 1, 2},
		"cas 6 6 0":                                                           {0, 0, 0, 0, 0, 0, 10, 2},
		"alloc 0; alloc 1; alloc 2; alloc 6; load 3 0 0":                      {3, 4, 0, 0, 0, 0, 0, 2},
		"free 6; alloc 0; load 1 0 0; free 0; alloc 0":                        {129, 0, 0, 0, 0, 0, 1, 2},
		"label a; label b.1":                                                  {0, 0, 0, 0, 0, 0, 1, 2},
		"zero 0 a; const 0 9; label a; const 1 1":                             {0, 1, 0, 0, 0, 0, 1, 2},
		"zero 6 a; const 0 9; label a; const 1 1":                             {9, 1, 0, 0, 0, 0, 1, 2},
		"same 0 1 a; const 0 9; label a; const 1 1":                           {0, 1, 0, 0, 0, 0, 1, 2},
		"same 0 7 a; const 0 9; label a; const 1 1":                           {9, 1, 0, 0, 0, 0, 1, 2},
		"goto a; label b; const 1 1; stop; label a; const 0 9; goto b":        {9, 1, 0, 0, 0, 0, 1, 2},
		"const 0 3; label a; add 1 1 0; sub 0 0 6; zero 0 b; goto a; label b": {0, 6, 0, 0, 0, 0, 1, 2},
		"need 6; mark 0; fence; force; stop; const 0 1":                       {0, 0, 0, 0, 0, 0, 1, 2},
	} {
		m := made(t, s)
		finish(t, m, 0)
		for r, v := range want {
			if got, err := m.Reg(0, r); got != v || err != nil {
				t.Errorf("%q: register %d is %d, %v, want %d", s, r, got, err, v)
			}
		}
		if m.Faults() != 0 {
			t.Errorf("%q: faults %d", s, m.Faults())
		}
	}
}

// P41: an instruction is one step, labels and jumps too; stop is none.
func TestSteps(t *testing.T) {
	for s, want := range map[string]int{
		"": 0, "stop": 0, "fence": 1, "fence; stop; fence": 1, "label a": 1, "goto a; fence; label a; fence": 3, "zero 0 a; label a": 2, "zero 6 a; label a": 2, "same 0 1 a; fence; fence; label a": 2, "goto a; label a; stop": 2,
		"const 0 3; label a; sub 0 0 6; zero 0 b; goto a; label b": 1 + 3*3 + 2 + 1,
	} {
		m := made(t, s)
		for range want {
			if m.Done(0) {
				t.Errorf("%q: done too early", s)
			}
			steps(t, m, 0, 1)
		}
		for range 3 {
			if !m.Done(0) || m.Step(0) != api.ErrDone {
				t.Errorf("%q: not done", s)
			}
		}
	}
}

// P41, P42: threads that are none.
func TestNoThread(t *testing.T) {
	m := made(t, "const 0 5; store 6 0 0; mark 0", "mark 0")
	steps(t, m, 0, 2)
	for _, thread := range []int{math.MinInt, -1, 2, api.MaxThreads - 1, api.MaxThreads, math.MaxInt} {
		for i, err := range []error{m.Step(thread), m.Drain(thread)} {
			if err != api.ErrBound {
				t.Error(thread, i, err)
			}
		}
		if v, err := m.Reg(thread, 0); v != 0 || err != api.ErrBound {
			t.Error(thread, v, err)
		}
		if !m.Done(thread) {
			t.Error(thread, "is not done")
		}
	}
	for _, r := range []int{math.MinInt, -1, api.Registers, math.MaxInt} {
		if v, err := m.Reg(0, r); v != 0 || err != api.ErrBound {
			t.Error(r, v, err)
		}
	}
	wantWaiting(t, m, 1, 0)
	if m.Done(0) || m.Done(1) {
		t.Error("something has gone on")
	}
}

// P41: threads have nothing in common but the cells, and they see what was stored when it is drained.
func TestStoresWait(t *testing.T) {
	m := made(t, "const 0 5; store 6 0 0; const 0 6; store 6 0 0; load 1 6 0", "load 0 6 0; load 0 6 0; load 0 6 0")
	steps(t, m, 0, 5)
	wantReg(t, m, 0, 1, 6)
	for _, want := range []int{10, 5, 6} {
		steps(t, m, 1, 1)
		wantReg(t, m, 1, 0, want)
		wantWord(t, m, 0, 0, want)
		if err := m.Drain(0); (err == nil) != (want != 6) || want == 6 && err != api.ErrNone {
			t.Error(want, err)
		}
	}
	if err := m.Drain(1); err != api.ErrNone {
		t.Error(err)
	}
	wantFaults(t, m, 0)
}

// P41: which instructions do what waits, and of whom: none does so where it names no cell.
func TestWhoFences(t *testing.T) {
	for s, want := range map[string][3]int{
		"fence": {0, 2, 1}, "swap 0 6 2": {0, 2, 1}, "cas 6 0 2": {0, 2, 1}, "free 7": {0, 2, 1}, "force": {0, 0, 0}, "store 6 0 2": {4, 2, 1},
		"load 0 6 0": {3, 2, 1}, "alloc 0": {3, 2, 1}, "label a": {3, 2, 1}, "mark 0": {3, 2, 1}, "need 6": {3, 2, 1}, "need 0": {3, 2, 1}, "zero 1 a; label a": {3, 2, 1}, "const 0 1": {3, 2, 1},
		"load 0 1 0": {3, 2, 1}, "store 1 0 0": {3, 2, 1}, "swap 0 1 0": {3, 2, 1}, "cas 1 0 0": {3, 2, 1}, "free 1": {3, 2, 1},
	} {
		m := made(t, "store 6 0 0; store 6 0 1; store 6 0 0; "+s, "store 6 0 0; store 6 0 1", "store 6 0 3")
		steps(t, m, 2, 1)
		steps(t, m, 1, 2)
		steps(t, m, 0, 3)
		wantWaiting(t, m, 3, 2, 1)
		steps(t, m, 0, 1)
		t.Log(s)
		wantWaiting(t, m, want[:]...)
	}
}

// P42: marks are told in order, the first MaxMarks, in new memory.
func TestMarks(t *testing.T) {
	m := made(t, "label a; mark 0; add 0 0 6; goto a", "mark 7")
	wantMarks(t, m)
	steps(t, m, 0, 2)
	steps(t, m, 1, 1)
	steps(t, m, 0, 4)
	wantMarks(t, m, Mark{0, 0}, Mark{1, 2}, Mark{0, 1})
	l := m.Marks()
	l[0] = Mark{5, 5}
	l = append(l[:1], Mark{6, 6})
	wantMarks(t, m, Mark{0, 0}, Mark{1, 2}, Mark{0, 1})
	steps(t, m, 0, 4*(api.MaxMarks+10))
	got := m.Marks()
	if len(got) != api.MaxMarks || got[1] != (Mark{1, 2}) || got[api.MaxMarks-1] != (Mark{0, api.MaxMarks - 2}) {
		t.Error(len(got), got[1], got[len(got)-1])
	}
	wantFaults(t, m, 0)
	wantReg(t, m, 0, 0, api.MaxMarks+11)
	if !slices.Equal(got, m.Marks()) || len(l) != 2 {
		t.Error("two answers differ")
	}
}

// P42: the cells that are there.
func TestCells(t *testing.T) {
	m := made(t, "alloc 0; alloc 0; alloc 1; free 6; free 6; free 7; free 0")
	for _, want := range []int{2, 3, 4, 4, 3, 3, 2, 1} {
		if m.Cells() != want {
			t.Error(m.Cells(), want)
		}
		m.Step(0)
	}
	if v, err := m.Peek(api.Ref{Cell: 2}, 4); v != 0 || err != api.ErrBound {
		t.Error(v, err)
	}
	for _, r := range []api.Ref{{}, {Cell: 3}, {Cell: 2, Gen: 1}, {Cell: -1}, {Cell: 4}} {
		if v, err := m.Peek(r, 0); v != 0 || err != api.ErrStale {
			t.Error(r, v, err)
		}
	}
}
