package queue

import (
	"slices"
	"strings"
	"testing"

	"quiescent/api"
	"quiescent/code"
	"quiescent/mach"
)

// P100: what is made is code, with as many instructions as it may have, of those that it may have, and labels that begin so.
func TestShape(t *testing.T) {
	for name, how := range pieces() {
		for _, p := range []string{"a", "z9", "a.", "a.t", "stop", "ab.1", "a9999999", "z.......", "abcdefgh"} {
			l := must(t, how, p)
			if err := code.Check(l); err != nil || len(l) > 60 || len(l) == 0 {
				t.Error(name, p, len(l), err)
			}
			for _, x := range l {
				if slices.Contains([]string{"alloc", "free", "mark", "need", "stop"}, x.Op) || !strings.HasPrefix(x.To, p) && x.To != "" {
					t.Error(name, p, x)
				}
			}
		}
	}
}

// P100: many of them stand in one, where no name begins another one's.
func TestMany(t *testing.T) {
	var l []api.Instr
	for i, p := range []string{"a", "b1", "b2", "b3.", "b30", "c.1", "c.2", "c111", "c112", "d", "e1", "e2", "stop", "zero", "f..", "f.a", "x", "yx", "yy"} {
		how := []piece{Put, Take, Take}[i%3]
		l = append(l, must(t, how, p)...)
	}
	if err := code.Check(l); err != nil {
		t.Error(err)
	}
}

// P100: names that are none, or too long.
func TestNoName(t *testing.T) {
	for name, how := range pieces() {
		for _, p := range []string{"", "A", "aA", "9", ".", ".a", "a_", "a ", " a", "a\n", "ä", "aä", "a\x00", "a\xff", "{", "`", "abcdefghi", "a........", "abcdefghijklm", strings.Repeat("a", 1<<20)} {
			if l, err := how(p); len(l) > 0 || err != api.ErrName {
				t.Errorf("%s %.20q: %v, %v", name, p, l, err)
			}
		}
	}
}

// P4: what is answered is new each time.
func TestNewPieces(t *testing.T) {
	for name, how := range pieces() {
		a := must(t, how, "a")
		want := slices.Clone(a)
		_ = append(a, api.Instr{Op: "stop"})
		for i := range a {
			a[i] = api.Instr{}
		}
		if b := must(t, how, "a"); !slices.Equal(b, want) {
			t.Error(name, b)
		}
	}
}

// P100: the first one that is put is the first one that is taken; the node that was ahead of it is not needed any more; of an empty queue both are 0.
func TestOneByOne(t *testing.T) {
	for _, c := range []struct {
		words       string
		notes, held []int
	}{
		{"", nil, nil},
		{"- ?", []int{0, 0}, nil},
		{"- ? - ? - ?", make([]int, 6), nil},
		{"+1", nil, []int{10}},
		{"+1 +2 +3", nil, []int{10, 20, 30}},
		{"+2 +1", nil, []int{20, 10}},
		{"+1 - ?", []int{10, nodeName(0)}, nil},
		{"- ? +1 - ? - ?", []int{0, 0, 10, nodeName(0), 0, 0}, nil},
		{"+1 +2 +3 - ?", []int{10, nodeName(0)}, []int{20, 30}},
		{"+1 +2 - ? +3 - ? - ? - ?", []int{10, nodeName(0), 20, nodeName(1), 30, nodeName(2), 0, 0}, nil},
		{"+1 +2 ! ! ! +3 ! !", []int{10, 20, 0, 30, 0}, nil},
		{"+1 - +2 - const,0,0 const,3,3 store,3,0,1 +1 - ?", []int{10, 20, 10, nodeName(2)}, nil}, // it is not needed, and may be put again
		{"const,3,3 const,0,0 store,3,0,0 +1 - ?", []int{0, nodeName(0)}, nil},                    // one that holds 0 is one, too
	} {
		m := worldMachine(t, 3, c.words)
		if !alone(m, 0) || m.Faults() > 0 || !slices.Equal(noted(m, 0), c.notes) || !slices.Equal(held(t, m), c.held) {
			t.Error(c.words, m.Faults(), m.Marks(), held(t, m))
		}
		wantWhole(t, m)
	}
}

// P100: registers 5 to 7 stay, and 3 and 4 of Put; so do all words but those that the queue is made of.
func TestUses(t *testing.T) {
	s, codes := world(t, 3, "- +1 +2 - - - +3 - -", "+3")
	m := machineOf(t, s, codes)
	for range 300 {
		m.Step(0)
		for r := 5; r < api.Registers; r++ {
			if v := reg(t, m, 0, r); v != s.Regs[0][r] {
				t.Fatal("register", r, "is", v)
			}
		}
		for cell, row := range s.Init {
			for w, want := range row {
				part := w == 1
				if cell == 0 {
					part = w < 3
				}
				if v := word(t, m, cell+1, w); v != want && !part {
					t.Fatal("word", w, "of cell", cell, "is", v)
				}
			}
		}
	}
	m.Step(1) // names the node
	for range 300 {
		if reg(t, m, 1, 3) != nodeName(3) || reg(t, m, 1, 4) != 64 {
			t.Fatal("registers 3 and 4 are", reg(t, m, 1, 3), reg(t, m, 1, 4))
		}
		m.Step(1)
	}
	if !allDone(m, 2) || m.Faults() > 0 {
		t.Error(m.Done(0), m.Done(1), m.Faults())
	}
}

// P100: when a node can be found, its words can be, too, though nobody drains: so are those that were stored ahead of Put. Behind Put it is found.
func TestFoundWhole(t *testing.T) {
	m := worldMachine(t, 3, "+1 const,3,4 const,0,77 store,3,0,0 store,3,0,2 store,3,0,3 +2", "- -")
	for range 300 {
		m.Step(0)
		linked := word(t, m, nodeName(1), 1) > 0
		if (linked || word(t, m, rootName, 1) == nodeName(2)) && (word(t, m, 4, 0) != 77 || word(t, m, 4, 2) != 77 || word(t, m, 4, 3) != 77) {
			t.Fatal("it is found ahead of its words")
		}
	}
	if m.Waiting(0) > 0 || !slices.Equal(held(t, m), []int{10, 77}) {
		t.Error("behind Put it is not found:", m.Waiting(0), held(t, m))
	}
	wantWhole(t, m)
	if !alone(m, 1) || !slices.Equal(noted(m, 1), []int{10, 77}) {
		t.Error(m.Marks())
	}
}

// P100: Put has no lock: it comes to its end alone, wherever another thread is stopped, and though somebody has the lock. Then that one does, too, and nothing is lost.
func TestPutWithoutLock(t *testing.T) {
	for _, first := range []string{"+1", "-", "+1 -", "- +1 -", "+1 ! !", "+1 +2"} {
		for count := range 80 {
			m := worldMachine(t, 5, first, "+3 +4", "+5")
			alone(m, 2)
			steps(m, 0, count)
			if !alone(m, 1) {
				t.Fatal(first, "is waited for behind", count, "steps")
			}
			if !alone(m, 0) || m.Faults() > 0 {
				t.Fatal(first, count, m.Faults())
			}
			wantWhole(t, m)
			wantOnce(t, m, first+" +3 +4 +5")
		}
	}
	s, codes := world(t, 1, "+1")
	s.Init[0][2] = 1
	if m := machineOf(t, s, codes); !alone(m, 0) || !slices.Equal(held(t, m), []int{10}) {
		t.Error("Put waits for the lock")
	}
}

// wantOnce: what is put in these words is noted or still there, each once; what is not there is noted as 0.
func wantOnce(t *testing.T, m *mach.Machine, words string) {
	t.Helper()
	var put []int
	for n := 1; n < 9; n++ {
		if strings.Contains(words, "+"+string(rune('0'+n))) {
			put = append(put, 10*n)
		}
	}
	taken := slices.DeleteFunc(notedBy(m), func(n int) bool { return n == 0 })
	if !slices.Equal(sorted(taken, held(t, m)), put) {
		t.Error(words, "taken:", taken, "there:", held(t, m))
	}
}

// P100: what Take tells while another one puts: both 0 only as long as the last node is the one ahead of the first one; else it takes the first one, which may have to be linked first.
func TestNotYet(t *testing.T) {
	var empty, there, notYet int
	for count := range 20 {
		m := worldMachine(t, 1, "+1", "- ?")
		steps(m, 0, count)
		want := []int{10, nodeName(0)}
		switch {
		case word(t, m, rootName, 1) == nodeName(0):
			empty++
			want = []int{0, 0}
		case word(t, m, nodeName(0), 1) > 0:
			there++
		default:
			notYet++
			if alone(m, 1) {
				t.Fatal("behind", count, "steps it takes", m.Marks())
			}
			steps(m, 0, 20)
		}
		if !alone(m, 1) || !slices.Equal(noted(m, 1), want) || m.Faults() > 0 {
			t.Error("behind", count, "steps:", m.Marks(), m.Faults())
		}
	}
	if empty == 0 || there == 0 || notYet == 0 {
		t.Error(empty, there, notYet)
	}
}

// P100: what one has put is there for its own Take, wherever another one is stopped in its Put, as soon as that one goes on.
func TestBehindAnother(t *testing.T) {
	for count := range 20 {
		m := worldMachine(t, 2, "+1", "+2 -")
		steps(m, 0, count)
		alone(m, 1)
		if !alone(m, 0) || !alone(m, 1) || m.Faults() > 0 || len(notedBy(m)) != 1 || m.Marks()[0].N == 0 {
			t.Error("behind", count, "steps:", m.Marks(), m.Faults())
		}
		wantOnce(t, m, "+1 +2")
	}
}

// P100: so it is in all ways of a few threads, where what is not needed any more is freed at once, or not at all.
func TestAllWaysOfPieces(t *testing.T) {
	for _, words := range [][]string{
		{"+1", "+2"},
		{"+1", "!"},
		{"+1", "! !"},
		{"+1 -", "-"},
		{"+1 !", "!"},
		{"+1 !", "+2 !"},
		{"+1 -", "+2 !"},
		{"+1 +2 !", "!"},
		{"+1 +2", "! !"},
		{"+1 ! +2", "!"},
		{"+1", "+2", "!"},
		{"+1", "!", "!"},
	} {
		m := worldMachine(t, 2, words...)
		ends := 0
		allEnds(t, m, len(words), func(m *mach.Machine, end bool) {
			if m.Faults() > 0 {
				t.Fatal(words, "a fault")
			}
			if end {
				ends++
				if !allDone(m, len(words)) {
					t.Fatal(words, "a thread is left")
				}
				wantWhole(t, m)
				wantOnce(t, m, strings.Join(words, " "))
			}
		})
		if ends == 0 {
			t.Error(words, "no end")
		}
	}
}

// P100: in no state of those does a Put wait: each that has begun comes to its end alone.
func TestAllWaysOfPut(t *testing.T) {
	for _, words := range [][]string{{"+1", "+2"}, {"+1", "!"}, {"+1", "! +2"}, {"+1", "+2", "!"}} {
		m := worldMachine(t, 2, words...)
		allEnds(t, m, len(words), func(m *mach.Machine, _ bool) {
			if !alone(m.Copy(), 0) {
				t.Fatal(words, "it waits")
			}
		})
	}
}
