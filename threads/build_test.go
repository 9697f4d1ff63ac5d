package threads

import (
	"slices"
	"strconv"
	"testing"

	"quiescent/api"
	"quiescent/code"
	"quiescent/grace"
	"quiescent/mach"
)

func flavours() []int { return []int{api.Fenced, api.Forced, api.Counted, api.Joined} }

// written code.
func written(t *testing.T, s string) []api.Instr {
	t.Helper()
	l, err := code.Read(s)
	if err != nil {
		t.Fatal(s, err)
	}
	return l
}

// noting makes code of an op that notes its number, behind a jump.
func noting(t *testing.T) func(x api.Op) ([]api.Instr, error) {
	return func(x api.Op) ([]api.Instr, error) {
		return written(t, "const 0 "+strconv.Itoa(x.N)+"\ngoto there\nconst 0 9\nlabel there\nmark 0\n"), nil
	}
}

// machine of threads whose ops note their numbers.
func machine(t *testing.T, f int, l [][]api.Op, cells ...[]int) (mach.Start, *mach.Machine) {
	t.Helper()
	s, codes, err := Build(f, l, noting(t), cells...)
	if err != nil {
		t.Fatal(f, err)
	}
	m, err := mach.New(s, codes)
	if err != nil {
		t.Fatal(f, err)
	}
	return s, m
}

// Ops become code in their order, the labels of each are its own, and behind the last one a thread is gone and stops.
func TestBuild(t *testing.T) {
	for _, f := range flavours() {
		s, m := machine(t, f, [][]api.Op{{put(1), put(2), put(3), put(2)}, nil, {put(4)}}, []int{8}, []int{Name(0), 7})
		for thread := range 3 {
			for range 100 {
				m.Step(thread)
			}
			if !m.Done(thread) {
				t.Error(f, thread)
			}
		}
		want := []mach.Mark{{Thread: 0, N: 1}, {Thread: 0, N: 2}, {Thread: 0, N: 3}, {Thread: 0, N: 2}, {Thread: 2, N: 4}}
		if !slices.Equal(m.Marks(), want) || m.Faults() > 0 {
			t.Error(f, m.Marks(), m.Faults())
		}
		if s.Cells != api.MaxCells || len(s.Init) != 2+1+3 || !slices.Equal(s.Init[0], []int{8, 0, 0, 0}) || !slices.Equal(s.Init[1], []int{1, 7, 0, 0}) {
			t.Error(f, s)
		}
		for thread, row := range s.Regs {
			if !slices.Equal(row, []int{0, 0, 0, 0, 0, Name(1), Name(3 + thread), Name(2)}) {
				t.Error(f, thread, row)
			}
		}
	}
}

// Without grace there are no other cells than the caller's, no other registers, and nothing behind the last op but a stop.
func TestBare(t *testing.T) {
	for _, cells := range [][][]int{nil, {{8}}, {{8}, {Name(0), 7}}} {
		s, codes, err := Bare([][]api.Op{{put(1), put(2)}, nil, {put(4)}}, noting(t), cells...)
		if err != nil || s.Cells != api.MaxCells || len(s.Init) != len(cells) || len(codes) != 3 || !slices.Equal(codes[1], written(t, "stop\n")) {
			t.Fatal(s, codes, err)
		}
		for _, row := range s.Regs {
			if !slices.Equal(row, []int{0, 0, 0, 0, 0, len(cells), 0, 0}) {
				t.Error(cells, row)
			}
		}
		m, err := mach.New(s, codes)
		if err != nil {
			t.Fatal(err)
		}
		for i := range 200 {
			m.Run([]int{i})
		}
		want := []mach.Mark{{Thread: 2, N: 4}, {Thread: 0, N: 1}, {Thread: 0, N: 2}}
		if got := m.Marks(); len(got) != 3 || !slices.Contains(got, want[0]) || slices.Index(got, want[1]) > slices.Index(got, want[2]) || m.Faults() > 0 || !m.Done(0) || !m.Done(1) || !m.Done(2) {
			t.Error(cells, got, m.Faults())
		}
	}
	s, codes, err := Bare([][]api.Op{{put(1)}, {put(2)}}, func(x api.Op) ([]api.Instr, error) {
		if x.N == 2 {
			return nil, api.ErrHeld
		}
		return nil, nil
	}, nil)
	if err != api.ErrHeld || s.Cells != 0 || s.Init != nil || s.Regs != nil || codes != nil {
		t.Error(s, codes, err)
	}
}

// Own cells are linked from the hub on, each once, where code does not do it.
func TestChain(t *testing.T) {
	for _, f := range flavours() {
		word, _ := grace.Link(f)
		for threads := 1; threads <= api.MaxThreads; threads++ {
			s, _ := machine(t, f, make([][]api.Op, threads), nil)
			var names []int
			if word >= 0 {
				for name := s.Init[1][word]; name > 0 && len(names) < 9; name = s.Init[name-1][1] {
					names = append(names, name)
				}
			}
			var want []int
			for _, row := range s.Regs {
				if f != api.Joined {
					want = append(want, row[6])
				}
			}
			if !slices.Equal(names, want) {
				t.Error(f, names, want)
			}
		}
	}
}

// With an error there is nothing else: of the flavour, of an op, of its labels.
func TestBuildErrors(t *testing.T) {
	ops := [][]api.Op{{put(1)}, {put(1)}}
	for _, c := range []struct {
		f    int
		l    []api.Instr
		err  error
		want error
	}{
		{0, nil, nil, api.ErrBound},
		{5, nil, api.ErrHeld, api.ErrBound},
		{1, written(t, "fence\n"), api.ErrHeld, api.ErrHeld},
		{4, []api.Instr{{Op: "label", To: "abcdefghijkl"}}, nil, api.ErrName},
	} {
		s, codes, err := Build(c.f, ops, func(api.Op) ([]api.Instr, error) { return c.l, c.err }, nil)
		if err != c.want || s.Cells != 0 || s.Init != nil || s.Regs != nil || codes != nil {
			t.Error(c.f, s, codes, err)
		}
	}
}

// play of one thread: code that is put together from these, with as many cells.
func play(t *testing.T, cells int, codes ...[]api.Instr) *mach.Machine {
	t.Helper()
	m, err := mach.New(mach.Start{Cells: cells, Init: [][]int{{}}}, [][]api.Instr{slices.Concat(codes...)})
	if err != nil {
		t.Fatal(err)
	}
	for range 200 {
		m.Step(0)
	}
	return m
}

// Code is passed over where the register is 0, and else done.
func TestUnless(t *testing.T) {
	note := written(t, "mark 2\nmark 2\n")
	for n, want := range []int{0, 2, 2} {
		m := play(t, 1, written(t, "const 2 "+strconv.Itoa(n)+"\n"), Unless(2, note...))
		if len(m.Marks()) != want || !m.Done(0) {
			t.Error(n, m.Marks())
		}
	}
}

// A new node has its number, and then the code is done; if there is no cell, it is passed over.
func TestNew(t *testing.T) {
	for n, more := range []string{"", "mark 3\n", "load 1 3 0\nmark 1\nmark 3\n"} {
		l := New(7+n, written(t, more)...)
		m := play(t, 2, l)
		var want []mach.Mark
		for _, v := range [][]int{nil, {Name(1)}, {7 + n, Name(1)}}[n] {
			want = append(want, mach.Mark{N: v})
		}
		m.Drain(0)
		if v, _ := m.Peek(api.Ref{Cell: 1}, Value); !slices.Equal(m.Marks(), want) || m.Cells() != 2 || v != 7+n || m.Faults() > 0 || !m.Done(0) {
			t.Error(more, m.Marks(), m.Cells(), v, m.Faults())
		}
		m = play(t, 1, l)
		if v, _ := m.Reg(0, Node); len(m.Marks()) > 0 || m.Cells() != 1 || v != 0 || m.Faults() > 0 || !m.Done(0) {
			t.Error(more, m.Marks(), m.Cells(), v, m.Faults())
		}
	}
}

// What is kept on the list is freed when it is emptied, by whatever word it is linked, and nothing else.
func TestList(t *testing.T) {
	for word := range api.Words {
		add := append(written(t, "alloc 3\n"), Keep(word)...)
		for count := range 4 {
			kept := slices.Concat(slices.Repeat([][]api.Instr{add}, count)...)
			m := play(t, 8, written(t, "alloc 1\n"), kept)
			if m.Cells() != 2+count || m.Faults() > 0 {
				t.Error(word, count, m.Cells(), m.Faults())
			}
			m = play(t, 8, written(t, "alloc 1\n"), kept, Empty(word))
			if v, _ := m.Reg(0, List); v != 0 || m.Cells() != 2 || m.Faults() > 0 || !m.Done(0) {
				t.Error(word, count, v, m.Cells(), m.Faults())
			}
		}
	}
}
