package spin

import (
	"math"
	"slices"
	"strings"
	"testing"

	"quiescent/api"
	"quiescent/code"
	"quiescent/mach"
)

// maker is a call that makes code of a lock: Take, or Give.
type maker func(p string, cell, word, tmp int) ([]api.Instr, error)

func makers() map[string]maker { return map[string]maker{"Take": Take, "Give": Give} }

// must make it.
func must(t *testing.T, make maker, p string, cell, word, tmp int) []api.Instr {
	t.Helper()
	l, err := make(p, cell, word, tmp)
	if err != nil || len(l) == 0 {
		t.Fatal(p, cell, word, tmp, l, err)
	}
	return l
}

// eachLock goes through all registers and words that a lock may have.
func eachLock(see func(cell, word, tmp int)) {
	for cell := range api.Registers {
		for word := range api.Words {
			for tmp := range api.Registers - 1 {
				if cell != tmp && cell != tmp+1 {
					see(cell, word, tmp)
				}
			}
		}
	}
}

// wantErr asks both calls.
func wantErr(t *testing.T, want error, p string, cell, word, tmp int) {
	t.Helper()
	for name, make := range makers() {
		if l, err := make(p, cell, word, tmp); len(l) > 0 || err != want {
			t.Error(name, p, cell, word, tmp, l, err, "want", want)
		}
	}
}

// P60: what is made is code, with as many instructions as it may have, of those that it may have, and labels that begin so.
func TestShape(t *testing.T) {
	eachLock(func(cell, word, tmp int) {
		for name, make := range makers() {
			for _, p := range []string{"t", "lock1", "abcdefgh", "a.", "z......."} {
				l := must(t, make, p, cell, word, tmp)
				if err := code.Check(l); err != nil || len(l) > 20 {
					t.Fatal(name, p, l, err)
				}
				for _, x := range l {
					if slices.Contains([]string{"alloc", "free", "mark", "need", "stop"}, x.Op) || !strings.HasPrefix(x.To, p) && x.To != "" {
						t.Fatal(name, p, x)
					}
				}
			}
		}
	})
}

// P60: many of them stand in one, where no name begins another one.
func TestMany(t *testing.T) {
	var l []api.Instr
	for a := 'a'; a <= 'z'; a++ {
		for b := 'a'; b <= 'z'; b++ {
			p := string(a) + string(b)
			l = append(append(l, must(t, Take, p+"t", 7, 0, 0)...), must(t, Give, p+"g", 7, 0, 0)...)
			if len(l) > api.MaxCode-40 {
				l = nil
			}
			if err := code.Check(l); err != nil {
				t.Fatal(p, err)
			}
		}
	}
}

// P60: a thread alone takes it and gives it back, as often as it likes. It uses its two registers, and the word, and nothing else.
func TestAlone(t *testing.T) {
	eachLock(func(cell, word, tmp int) {
		regs := []int{11, 12, 13, 14, 15, 16, 17, 18}
		regs[cell] = 2
		words := []int{21, 22, 23, 24}
		words[word] = 0
		l := slices.Concat(must(t, Take, "t", cell, word, tmp), must(t, Give, "g", cell, word, tmp), must(t, Take, "u", cell, word, tmp), must(t, Give, "h", cell, word, tmp))
		m, err := mach.New(mach.Start{Cells: 2, Init: [][]int{{31, 32, 33, 34}, words}, Regs: [][]int{regs}}, [][]api.Instr{l})
		if err != nil {
			t.Fatal(err)
		}
		for range 200 {
			m.Step(0)
			wantAlone(t, m, regs, words, word, tmp)
		}
		if v, _ := m.Peek(api.Ref{Cell: 1}, word); !m.Done(0) || v != 0 {
			t.Error("not done, or not given back", v)
		}
	})
}

// wantAlone looks at all that may not change.
func wantAlone(t *testing.T, m *mach.Machine, regs, words []int, word, tmp int) {
	t.Helper()
	for r, want := range regs {
		if got, _ := m.Reg(0, r); got != want && r != tmp && r != tmp+1 {
			t.Fatal("register", r, "is", got, "not", want)
		}
	}
	for w, want := range words {
		other, _ := m.Peek(api.Ref{}, w)
		got, _ := m.Peek(api.Ref{Cell: 1}, w)
		if other != 31+w || got != want && w != word {
			t.Fatal("word", w, "is", got, "not", want)
		}
	}
	if m.Faults() > 0 || m.Cells() != 2 || len(m.Marks()) > 0 {
		t.Fatal(m.Faults(), m.Cells(), m.Marks())
	}
}

// P60: who has it, has made the word something else than 0; it is 0 when it is given back, also for others.
func TestWord(t *testing.T) {
	take, give := must(t, Take, "t", 7, 2, 3), must(t, Give, "g", 7, 2, 3)
	m, err := mach.New(mach.Start{Cells: 1, Init: [][]int{{}}, Regs: [][]int{{0, 0, 0, 0, 0, 0, 0, 1}}}, [][]api.Instr{slices.Concat(take, []api.Instr{{Op: "label", To: "between"}, {Op: "mark", A: 7}}, give)})
	if err != nil {
		t.Fatal(err)
	}
	for len(m.Marks()) == 0 {
		m.Step(0)
	}
	if v, _ := m.Peek(api.Ref{}, 2); v == 0 {
		t.Error("nobody has it, once it is taken")
	}
	for m.Step(0) == nil {
	}
	if v, _ := m.Peek(api.Ref{}, 2); v != 0 || m.Waiting(0) > 0 {
		t.Error("it is not given back:", v, m.Waiting(0))
	}
}

// P60: whatever the word is, but 0: somebody has it.
func TestHeld(t *testing.T) {
	for _, held := range []int{1, 2, 7, 1 << 31, 1<<32 - 1} {
		s := mach.Start{Cells: 1, Init: [][]int{{0, held}}, Regs: [][]int{{0, 0, 0, 0, 0, 0, 0, 1}}}
		m, err := mach.New(s, [][]api.Instr{must(t, Take, "t", 7, 1, 0)})
		if err != nil {
			t.Fatal(err)
		}
		for range 1000 {
			if m.Step(0) != nil {
				t.Fatal("taken, where the word is", held)
			}
		}
		if v, _ := m.Peek(api.Ref{}, 1); v != held || m.Waiting(0) > 0 {
			t.Error("the word is", v, "not", held)
		}
	}
}

// P60: registers and words that are none.
func TestNoLock(t *testing.T) {
	numbers := []int{math.MinInt, -2, -1, 0, 1, 2, 3, 4, 5, 6, 7, 8, 9, 64, 1 << 32, math.MaxInt - 1, math.MaxInt}
	for _, cell := range numbers {
		for _, word := range numbers {
			for _, tmp := range numbers {
				good := cell >= 0 && cell <= 7 && word >= 0 && word <= 3 && tmp >= 0 && tmp <= 6 && cell-tmp != 0 && cell-tmp != 1
				if good {
					must(t, Take, "t", cell, word, tmp)
					must(t, Give, "t", cell, word, tmp)
					wantErr(t, api.ErrName, "9", cell, word, tmp)
					continue
				}
				for _, p := range []string{"t", "", "9", "abcdefghi"} { // the numbers come first
					wantErr(t, api.ErrBound, p, cell, word, tmp)
				}
			}
		}
	}
}

// P60: names that are none, or too long.
func TestNoName(t *testing.T) {
	for _, p := range []string{"", "T", "tT", "9", ".", ".t", "t_", "t ", " t", "t\n", "ä", "tä", "t\x00", "t\xff", "{", "`", "abcdefghi", "t........", "abcdefghijkl", "abcdefghijklm", strings.Repeat("t", 1<<20)} {
		wantErr(t, api.ErrName, p, 7, 0, 0)
		if err := CheckName(p); err != api.ErrName {
			t.Errorf("%.20q: %v", p, err)
		}
	}
	for _, p := range []string{"a", "z9", "t.", "stop", "abcdefgh", "a1234567"} {
		must(t, Take, p, 7, 0, 0)
		must(t, Give, p, 7, 0, 0)
		if err := CheckName(p); err != nil {
			t.Error(p, err)
		}
	}
}

// P4: what is answered is new each time.
func TestNew(t *testing.T) {
	for name, make := range makers() {
		a := must(t, make, "t", 7, 0, 0)
		want := slices.Clone(a)
		_ = append(a, api.Instr{Op: "stop"})
		for i := range a {
			a[i] = api.Instr{}
		}
		if b := must(t, make, "t", 7, 0, 0); !slices.Equal(b, want) {
			t.Error(name, b)
		}
	}
}
