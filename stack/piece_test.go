package stack

import (
	"slices"
	"strings"
	"testing"

	"quiescent/api"
	"quiescent/code"
	"quiescent/mach"
)

// P90: what is made is code, with as many instructions as it may have, of those that it may have, and labels that begin so.
func TestShape(t *testing.T) {
	for name, how := range pieces() {
		for _, p := range []string{"a", "z9", "a.", "stop", "ab.1", "a9999999", "z.......", "abcdefgh"} {
			l := must(t, how, p)
			if err := code.Check(l); err != nil || len(l) > 40 || len(l) == 0 {
				t.Error(name, p, len(l), err)
			}
			for _, x := range l {
				if slices.Contains([]string{"alloc", "free", "mark", "need", "stop"}, x.Op) || !strings.HasPrefix(x.To, p) && x.To != "" {
					t.Error(name, p, x)
				}
			}
		}
	}
}

// P90: many of them stand in one, where no name begins another one.
func TestMany(t *testing.T) {
	var l []api.Instr
	for i, p := range []string{"a", "b1", "b2", "b3.", "b30", "c.1", "c.2", "c111", "c112", "d", "e1", "e2", "stop", "zero", "f..", "f.a", "x", "yx", "yy"} {
		how := []piece{Push, Pop}[i%2]
		l = append(l, must(t, how, p)...)
	}
	if err := code.Check(l); err != nil {
		t.Error(err)
	}
}

// P90: names that are none, or too long.
func TestNoName(t *testing.T) {
	for name, how := range pieces() {
		for _, p := range []string{"", "A", "aA", "9", ".", ".a", "a_", "a ", " a", "a\n", "ä", "aä", "a\x00", "a\xff", "{", "`", "abcdefghi", "a........", "abcdefghijklm", strings.Repeat("a", 1<<20)} {
			if l, err := how(p); len(l) > 0 || err != api.ErrName {
				t.Errorf("%s %.20q: %v, %v", name, p, l, err)
			}
		}
	}
}

// P4: what is answered is new each time.
func TestNewPieces(t *testing.T) {
	for name, how := range pieces() {
		a := must(t, how, "a")
		want := slices.Clone(a)
		_ = append(a, api.Instr{Op: "stop"})
		for i := range a {
			a[i] = api.Instr{}
		}
		if b := must(t, how, "a"); !slices.Equal(b, want) {
			t.Error(name, b)
		}
	}
}

// names of cells.
func names(cells ...int) []int {
	var l []int
	for _, c := range cells {
		l = append(l, c+1)
	}
	return l
}

// P90: the last one that is put on top is the first one that is taken off; of an empty stack it is 0.
func TestOneByOne(t *testing.T) {
	for _, c := range []struct {
		words       string
		notes, held []int
	}{
		{"", nil, nil},
		{"-", []int{0}, nil},
		{"- - -", []int{0, 0, 0}, nil},
		{"+1", nil, []int{1}},
		{"+1 +2 +3", nil, []int{3, 2, 1}},
		{"+2 +1", nil, []int{1, 2}},
		{"+1 -", names(1), nil},
		{"- +1 - -", []int{0, 2, 0}, nil},
		{"+1 +2 +3 -", names(3), []int{2, 1}},
		{"+1 +2 - +3 - -", names(2, 3, 1), nil},
		{"+1 - +1 - +1 +2", names(1, 1), []int{2, 1}}, // nobody else can have seen it
	} {
		m := worldMachine(t, 3, c.words)
		if !alone(m, 0) || m.Faults() > 0 || !slices.Equal(noted(m, 0), c.notes) || !slices.Equal(held(t, m), c.held) {
			t.Error(c.words, m.Faults(), m.Marks(), held(t, m))
		}
	}
}

// P90: registers 4 to 7 stay, and 3 of Push; so do all words but the top, and the links of what is pushed.
func TestUses(t *testing.T) {
	s, codes := world(t, 3, "- +1 +2 - - - +3 - -", "+3")
	m := machineOf(t, s, codes)
	for range 300 {
		m.Step(0)
		for r := 4; r < api.Registers; r++ {
			if v := reg(t, m, 0, r); v != s.Regs[0][r] {
				t.Fatal("register", r, "is", v)
			}
		}
		for cell, row := range s.Init {
			for w, want := range row {
				link := w == 0
				if cell > 0 {
					link = w == 1
				}
				if v := word(t, m, cell+1, w); v != want && !link {
					t.Fatal("word", w, "of cell", cell, "is", v)
				}
			}
		}
	}
	m.Step(1) // names the node
	for range 300 {
		if v := reg(t, m, 1, 3); v != 4 {
			t.Fatal("register 3 is", v)
		}
		m.Step(1)
	}
	if !allDone(m, 2) || m.Faults() > 0 {
		t.Error(m.Done(0), m.Done(1), m.Faults())
	}
}

// P90: when a node can be found, its words can be, too, though nobody drains: so are those that were stored ahead of Push.
func TestFoundWhole(t *testing.T) {
	m := worldMachine(t, 3, "+1 const,3,3 const,0,77 store,3,0,0 store,3,0,2 store,3,0,3 +2", "-")
	for range 300 {
		m.Step(0)
		if top := word(t, m, 1, 0); top == 3 && (word(t, m, 3, 0) != 77 || word(t, m, 3, 1) != 2 || word(t, m, 3, 2) != 77 || word(t, m, 3, 3) != 77) {
			t.Fatal("it is found ahead of its words")
		}
	}
	if top := word(t, m, 1, 0); top != 3 || m.Waiting(0) > 0 {
		t.Error("behind Push it is not found:", top)
	}
	if !alone(m, 1) || !slices.Equal(noted(m, 1), names(2)) {
		t.Error(m.Marks())
	}
}

// P90: nobody has a lock: wherever a thread is stopped, another one comes to its end alone; and then the first one does, too.
func TestNoLock(t *testing.T) {
	for _, first := range []string{"+1", "-", "+1 -", "- +1 -"} {
		for _, other := range []string{"+2", "-", "+2 -", "- +2 - +3", "+2 +3 - - - -"} {
			for steps := range 60 {
				m := worldMachine(t, 4, first, other, "+4")
				alone(m, 2)
				for range steps {
					m.Step(0)
				}
				if !alone(m, 1) {
					t.Fatal(first, other, "waits where the other one has done", steps)
				}
				if !alone(m, 0) || m.Faults() > 0 {
					t.Fatal(first, other, steps, m.Faults())
				}
				wantOnce(t, m, first+" "+other+" +4")
			}
		}
	}
}

// wantOnce: what is pushed in these words is noted or still there, each once; what is not there is noted as 0.
func wantOnce(t *testing.T, m *mach.Machine, words string) {
	t.Helper()
	var pushed []int
	for n := 1; n < 9; n++ {
		if strings.Contains(words, "+"+string(rune('0'+n))) {
			pushed = append(pushed, n)
		}
	}
	var popped []int
	for _, n := range notedBy(m) {
		if n > 0 {
			popped = append(popped, n-1)
		}
	}
	if !slices.Equal(sorted(popped, held(t, m)), pushed) {
		t.Error(words, "popped:", popped, "there:", held(t, m))
	}
}

// P90: so it is in all ways of a few threads: here nothing is freed.
func TestAllWaysOfPieces(t *testing.T) {
	for _, words := range [][]string{
		{"+1", "+2"},
		{"+1", "-"},
		{"+1 -", "-"},
		{"+1 -", "+2 -"},
		{"+1 +2 -", "-"},
		{"+1 +2", "- -"},
		{"+1 +2 - -", "- -"},
		{"+1", "+2", "-"},
		{"+1", "-", "-"},
	} {
		m := worldMachine(t, 2, words...)
		ends := 0
		allEnds(t, m, len(words), func(m *mach.Machine, end bool) {
			if m.Faults() > 0 {
				t.Fatal(words, "a fault")
			}
			if end {
				ends++
				wantOnce(t, m, strings.Join(words, " "))
			}
		})
		if ends == 0 {
			t.Error(words, "no end")
		}
	}
}

// P90: a lock would be seen here: in no state of those is there one from which a thread does not come to its end alone.
func TestAllWaysWithoutLock(t *testing.T) {
	m := worldMachine(t, 2, "+1 -", "+2 -")
	allEnds(t, m, 2, func(m *mach.Machine, _ bool) {
		for thread := range 2 {
			if !alone(m.Copy(), thread) {
				t.Fatal("thread", thread, "waits")
			}
		}
	})
}
