package grace

import (
	"math"
	"slices"
	"strings"
	"testing"

	"quiescent/api"
	"quiescent/code"
	"quiescent/mach"
)

// P72: what is made is code, with as many instructions as it may have, of those that it may have, and labels that begin so.
func TestShape(t *testing.T) {
	for name, how := range pieces() {
		for _, f := range flavours() {
			for _, p := range []string{"a", "z9", "a.", "stop", "ab.1", "a999", "z..."} {
				l := must(t, how, f, p)
				if err := code.Check(l); err != nil || len(l) > 70 {
					t.Error(name, f, p, len(l), err)
				}
				for _, x := range l {
					if slices.Contains([]string{"alloc", "free", "mark", "need", "stop"}, x.Op) || !strings.HasPrefix(x.To, p) && x.To != "" {
						t.Error(name, f, p, x)
					}
				}
			}
		}
	}
}

// P72: many of them stand in one, where no name begins another one.
func TestMany(t *testing.T) {
	for name, how := range pieces() {
		for _, f := range flavours() {
			var l []api.Instr
			for _, p := range []string{"a", "b1", "b2", "b3.", "b30", "c.1", "c.2", "c111", "c112", "d", "e1", "e2", "stop", "zero", "f..", "f.a"} {
				l = append(l, must(t, how, f, p)...)
			}
			if err := code.Check(l); err != nil {
				t.Error(name, f, err)
			}
		}
	}
}

// P70: readers of api.Forced have no fence; those of api.Fenced and api.Joined have one in each section; only api.Forced forces.
func TestFences(t *testing.T) {
	has := func(how piece, f int, ops ...string) bool {
		return slices.ContainsFunc(must(t, how, f, "a"), func(x api.Instr) bool { return slices.Contains(ops, x.Op) })
	}
	for _, f := range flavours() {
		if fenced := has(Enter, f, "fence", "swap", "cas"); fenced != (f == api.Fenced || f == api.Joined) {
			t.Error(f, "a section's beginning is a fence:", fenced)
		}
		if forced := has(Wait, f, "force"); forced != (f == api.Forced) {
			t.Error(f, "a wait forces:", forced)
		}
		if has(Enter, f, "force") || has(Leave, f, "force") || has(Rest, f, "force") || has(Gone, f, "force") {
			t.Error(f, "a reader forces")
		}
	}
	if has(Leave, api.Forced, "fence", "swap", "cas") {
		t.Error("a section's end is a fence, where it is forced")
	}
}

// P72: flavours that are none, ahead of names that are none.
func TestNoFlavour(t *testing.T) {
	for _, f := range []int{math.MinInt, -4, -1, 0, 5, 6, 8, 1 << 32, 1<<32 + 1, math.MaxInt} {
		for name, how := range pieces() {
			for _, p := range []string{"a", "", "A", "abcde"} {
				if l, err := how(f, p); len(l) > 0 || err != api.ErrBound {
					t.Error(name, f, p, l, err)
				}
			}
		}
		h, e1 := Hub(f)
		o, e2 := Own(f)
		n, e3 := Link(f)
		if len(h) > 0 || len(o) > 0 || n != 0 || e1 != api.ErrBound || e2 != api.ErrBound || e3 != api.ErrBound {
			t.Error(f, h, o, n, e1, e2, e3)
		}
	}
}

// P72: names that are none, or too long, also where no code is needed.
func TestNoName(t *testing.T) {
	for name, how := range pieces() {
		for _, f := range flavours() {
			for _, p := range []string{"", "A", "aA", "9", ".", ".a", "a_", "a ", " a", "a\n", "ä", "aä", "a\x00", "a\xff", "{", "`", "abcde", "a....", "abcdefghijklm", strings.Repeat("a", 1<<20)} {
				if l, err := how(f, p); len(l) > 0 || err != api.ErrName {
					t.Errorf("%s %d %.20q: %v, %v", name, f, p, l, err)
				}
			}
			must(t, how, f, "abcd")
		}
	}
}

// P71: words at the beginning, and the links among them.
func TestWords(t *testing.T) {
	for _, f := range flavours() {
		h, e1 := Hub(f)
		o, e2 := Own(f)
		n, e3 := Link(f)
		if e1 != nil || e2 != nil || e3 != nil || len(h) > api.Words || len(o) > api.Words || n >= api.Words {
			t.Fatal(f, h, o, n, e1, e2, e3)
		}
		if joined := n == -1; joined != (f == api.Joined) || n < -1 {
			t.Error(f, n)
		}
		if n >= 0 && n < len(h) && h[n] != 0 || len(o) > 1 && o[1] != 0 {
			t.Error("a link at the beginning:", f, h, o)
		}
		if _, err := mach.New(mach.Start{Cells: 2, Init: [][]int{h, o}}, [][]api.Instr{nil}); err != nil {
			t.Error("not words:", f, h, o)
		}
	}
}

// P71: code uses registers 0, 1 and 2, the hub and the own cell, and nothing else.
func TestUses(t *testing.T) {
	for _, f := range flavours() {
		s := world(t, f, 1)
		s.Init = append(s.Init, []int{11, 12, 13, 14})
		s.Regs[0] = []int{21, 22, 23, 24, 25, 26, 2, 1}
		m := machineOf(t, s, plays(t, f, "enter enter leave enter leave leave rest wait enter leave rest rest wait wait gone rest wait"))
		was := m.Copy()
		for range 3000 {
			m.Step(0)
			for r := 3; r < api.Registers; r++ {
				if v, _ := m.Reg(0, r); v != s.Regs[0][r] {
					t.Fatal(f, "register", r, "is", v)
				}
			}
			for cell := 2; cell < len(s.Init); cell++ {
				for w := range api.Words {
					v, _ := m.Peek(api.Ref{Cell: cell}, w)
					if old, _ := was.Peek(api.Ref{Cell: cell}, w); v != old {
						t.Fatal(f, "word", w, "of cell", cell, "is", v)
					}
				}
			}
		}
		if !m.Done(0) || m.Faults() > 0 || m.Cells() != len(s.Init) || len(m.Marks()) > 0 {
			t.Error(f, m.Faults(), m.Cells(), m.Marks())
		}
	}
}

// P4: what is answered is new each time.
func TestNew(t *testing.T) {
	for _, f := range flavours() {
		for name, how := range pieces() {
			a := must(t, how, f, "a")
			want := slices.Clone(a)
			_ = append(a, api.Instr{Op: "stop"})
			for i := range a {
				a[i] = api.Instr{}
			}
			if b := must(t, how, f, "a"); !slices.Equal(b, want) {
				t.Error(name, f, b)
			}
		}
		for _, words := range []func(int) ([]int, error){Hub, Own} {
			a, _ := words(f)
			want := slices.Clone(a)
			for i := range a {
				a[i] = 99
			}
			if b, _ := words(f); !slices.Equal(b, want) {
				t.Error(f, b)
			}
		}
	}
}
