package spin

import (
	"slices"
	"strings"
	"testing"

	"quiescent/api"
	"quiescent/code"
)

// P61: labels are longer, where they are set and where they are gone to; all else stays.
func TestNamed(t *testing.T) {
	for _, c := range []struct{ p, from, to string }{
		{"x", "", ""},
		{"x", "fence\nstop\n", "fence\nstop\n"},
		{"x", "label a\n", "label a.x\n"},
		{"x", "goto a\nzero 1 a\nsame 2 3 b.\nlabel a\nlabel b.\nmark 4\n", "goto a.x\nzero 1 a.x\nsame 2 3 b..x\nlabel a.x\nlabel b..x\nmark 4\n"},
		{"", "label a\ngoto a\n", "label a.\ngoto a.\n"},
		{"9.z", "label a\ngoto a\n", "label a.9.z\ngoto a.9.z\n"}, // no name by itself, but a name behind a label
		{".", "label a\n", "label a..\n"},
		{"abcdefghij", "label a\ngoto a\n", "label a.abcdefghij\ngoto a.abcdefghij\n"},
		{"x", "label abcdefghij\n", "label abcdefghij.x\n"},
		{"", "label abcdefghijk\n", "label abcdefghijk.\n"},
	} {
		l, err := code.Read(c.from)
		if err != nil {
			t.Fatal(c.from, err)
		}
		was := slices.Clone(l)
		named, err := Named(c.p, l)
		if s, e := code.Text(named); s != c.to || err != nil || e != nil {
			t.Errorf("%q, %q: %q, %v, %v", c.p, c.from, s, err, e)
		}
		if !slices.Equal(l, was) {
			t.Error("what was handed over is changed:", l)
		}
	}
}

// P61: what would be no name. Nothing is asked where no label is.
func TestNamedNoName(t *testing.T) {
	long := strings.Repeat("x", 1<<16)
	for _, c := range []struct{ p, label string }{
		{"X", "a"}, {"a_", "a"}, {" ", "a"}, {"\n", "a"}, {"ä", "a"}, {"\xff", "a"}, {"abcdefghijk", "a"}, {long, "a"},
		{"x", "abcdefghijk"}, {"", "abcdefghijkl"}, {"xy", "abcdefghij"}, {"x", "A"}, {"x", "9"}, {"x", ""}, {"", ""}, {"x", ".a"}, {"x", "a b"}, {"x", long},
	} {
		for _, op := range []string{"zero", "same", "goto", "label"} {
			for _, l := range [][]api.Instr{{{Op: op, To: c.label}}, {{Op: "label", To: "b"}, {Op: "fence"}, {Op: op, To: c.label}}} {
				if named, err := Named(c.p, l); len(named) > 0 || err != api.ErrName {
					t.Error(c, op, named, err)
				}
			}
		}
		none := []api.Instr{{Op: "const", A: 1, B: 5}, {Op: "fence"}, {Op: "cas", A: 1, B: 2, C: 3}, {Op: "stop"}}
		for _, l := range [][]api.Instr{none, {}, nil} {
			if named, err := Named(c.p, l); !slices.Equal(named, l) || err != nil {
				t.Error(c, named, err)
			}
		}
	}
}

// P61: what is no label stays, also where the instruction is none.
func TestNamedOthers(t *testing.T) {
	l := []api.Instr{{Op: "fence", To: "a"}, {Op: "what", To: "A"}, {A: 9, B: -1, C: 1 << 40}, {Op: "goto", A: 7, To: "a"}}
	named, err := Named("x", l)
	l[3].To = "a.x"
	if !slices.Equal(named, l) || err != nil {
		t.Error(named, err)
	}
}

// P61: code of a lock is named, too, and again.
func TestNamedLock(t *testing.T) {
	take := must(t, Take, "t", 7, 0, 0)
	l := take
	for _, p := range []string{"a", "b", "cd"} {
		named, err := Named(p, take)
		if err != nil {
			t.Fatal(p, err)
		}
		l = append(l, named...)
	}
	named, err := Named("e", l[len(take):])
	if err != nil {
		t.Fatal(err)
	}
	if err := code.Check(append(l, named...)); err != nil {
		t.Error(err)
	}
}

// P4: nothing is shared; what lies behind the list stays.
func TestNamedNew(t *testing.T) {
	for _, l := range [][]api.Instr{{{Op: "label", To: "a"}, {Op: "fence"}}, {{Op: "fence"}, {Op: "stop"}}} {
		whole := slices.Clone(l)
		named, err := Named("x", whole[:1])
		if err != nil || len(named) != 1 {
			t.Fatal(named, err)
		}
		_ = append(named, api.Instr{Op: "need"})
		named[0] = api.Instr{Op: "what"}
		if !slices.Equal(whole, l) {
			t.Error(whole)
		}
	}
}
