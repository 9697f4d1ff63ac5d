package code

import (
	"math"
	"slices"
	"strings"
	"testing"

	"quiescent/api"
)

// fields tells of each instruction what it has: r a register, e one that is not the last, w a word of a cell, v any word, t a label.
var fields = map[string]string{
	"const": "rv", "move": "rr", "add": "rrr", "sub": "rrr", "and": "rrr", "xor": "rrr", "load": "rrw", "store": "rrw", "swap": "rrw", "cas": "rew",
	"alloc": "r", "free": "r", "fence": "", "force": "", "zero": "rt", "same": "rrt", "goto": "t", "label": "t", "mark": "r", "need": "r", "stop": "",
}

var greatest = map[rune]int{'r': 7, 'e': 6, 'w': 3, 'v': 4294967295}

// with gives an instruction its n-th number.
func with(x api.Instr, n, v int) api.Instr {
	*[]*int{&x.A, &x.B, &x.C}[n] = v
	return x
}

// whole is code in which all labels of x are set, x being at 0.
func whole(x api.Instr) []api.Instr {
	if x.To == "" || x.Op == "label" {
		return []api.Instr{x}
	}
	return []api.Instr{x, {Op: "label", To: x.To}}
}

func wantFault(t *testing.T, err error, at int, want error) {
	t.Helper()
	f, ok := err.(*api.Fault)
	if !ok || f.At != at || f.Err != want {
		t.Errorf("%#v, want %v at %d", err, want, at)
	}
}

// wantErr asks both calls that take code.
func wantErr(t *testing.T, l []api.Instr, at int, want error) {
	t.Helper()
	wantFault(t, Check(l), at, want)
	s, err := Text(l)
	wantFault(t, err, at, want)
	if s != "" {
		t.Errorf("a text with an error: %q", s)
	}
}

// P30: each instruction has its numbers, within their bounds, and its label; all else is zero.
func TestKinds(t *testing.T) {
	for op, has := range fields {
		least := api.Instr{Op: op}
		if strings.HasSuffix(has, "t") {
			least.To = "a"
			has = strings.TrimSuffix(has, "t")
			wantErr(t, []api.Instr{{Op: op}}, 0, api.ErrName)
		} else {
			wantErr(t, whole(api.Instr{Op: op, To: "a"}), 0, api.ErrShape)
		}
		most := least
		for n, f := range has {
			most = with(most, n, greatest[f])
			for _, v := range []int{greatest[f] + 1, -1, math.MaxInt, math.MinInt} {
				wantErr(t, whole(with(least, n, v)), 0, api.ErrBound)
			}
		}
		for n := len(has); n < 3; n++ {
			for _, v := range []int{1, -1, math.MaxInt, math.MinInt} {
				wantErr(t, whole(with(least, n, v)), 0, api.ErrShape)
			}
		}
		for _, x := range []api.Instr{least, most} {
			if err := Check(whole(x)); err != nil {
				t.Error(x, err)
			}
		}
	}
}

// P30: which instructions have a label.
func TestHasLabel(t *testing.T) {
	for op, has := range fields {
		if HasLabel(op) != strings.HasSuffix(has, "t") {
			t.Error(op, HasLabel(op))
		}
	}
	for _, op := range []string{"", "Label", "what"} {
		if HasLabel(op) {
			t.Error(op)
		}
	}
}

// P31: an Op is one of the names, to the byte.
func TestOps(t *testing.T) {
	for _, op := range []string{"", "what", "Fence", "fence ", " fence", "fences", "fenc", "FENCE", "a", "\xff", "fence\n", "const 0 1"} {
		wantErr(t, []api.Instr{{Op: "stop"}, {Op: op}}, 1, api.ErrShape)
	}
}

// P31: names of labels.
func TestNames(t *testing.T) {
	for _, name := range []string{"a", "z", "a0", "a9", "a.", "a..", "az.09", "abcdefghijkl", "l...........", "stop"} {
		for _, op := range []string{"goto", "zero", "same", "label"} {
			if err := Check(whole(api.Instr{Op: op, To: name})); err != nil {
				t.Error(op, name, err)
			}
		}
	}
	for _, name := range []string{"", "A", "0", ".", ".a", "9a", "aA", "a_", "a-", "a b", " a", "a ", "a\n", "ä", "aä", "a\x00", "a\xff", "{", "`", "a{", "a`", "a/", "a:", "abcdefghijklm", strings.Repeat("a", 5000)} {
		for _, op := range []string{"goto", "zero", "same", "label"} {
			wantErr(t, []api.Instr{{Op: op, To: name}, {Op: "label", To: name}}, 0, api.ErrName)
		}
	}
}

// P31: a label is set once, ahead or behind.
func TestLabels(t *testing.T) {
	label, jump := func(s string) api.Instr { return api.Instr{Op: "label", To: s} }, func(s string) api.Instr { return api.Instr{Op: "goto", To: s} }
	for _, l := range [][]api.Instr{nil, {}, {label("a")}, {label("a"), jump("a")}, {jump("a"), label("a")}, {label("a"), label("b"), jump("b"), jump("a"), jump("a")}, {label("a"), label("aa"), label("a.")}} {
		if err := Check(l); err != nil {
			t.Error(l, err)
		}
	}
	wantErr(t, []api.Instr{jump("a")}, 0, api.ErrNone)
	wantErr(t, []api.Instr{label("b"), {Op: "zero", To: "a"}}, 1, api.ErrNone)
	wantErr(t, []api.Instr{label("a"), {Op: "same", To: "aa"}}, 1, api.ErrNone)
	wantErr(t, []api.Instr{label("a"), label("b"), label("a"), label("b")}, 2, api.ErrName)
	wantErr(t, []api.Instr{jump("a"), label("a"), jump("a"), label("a"), jump("b")}, 3, api.ErrName)
}

// P31: the first instruction that is none, and of it the first error.
func TestFirst(t *testing.T) {
	label := api.Instr{Op: "label", To: "a"}
	for i, x := range []struct {
		l    []api.Instr
		at   int
		want error
	}{
		{[]api.Instr{{Op: "goto", To: "a"}, {}}, 0, api.ErrNone},
		{[]api.Instr{{Op: "fence"}, {Op: "goto", To: "A"}, {}}, 1, api.ErrName},
		{[]api.Instr{{Op: "mark", A: 8}, {}}, 0, api.ErrBound},
		{[]api.Instr{{}, {Op: "mark", A: 8}}, 0, api.ErrShape},
		{[]api.Instr{{Op: "mark", A: 8, B: 1}}, 0, api.ErrShape},
		{[]api.Instr{{Op: "mark", A: 8, To: "a"}, label}, 0, api.ErrShape},
		{[]api.Instr{{Op: "zero", A: 8, B: 1, To: "A"}}, 0, api.ErrShape},
		{[]api.Instr{{Op: "zero", A: 8, To: "A"}}, 0, api.ErrBound},
		{[]api.Instr{{Op: "same", B: 8, To: "b"}}, 0, api.ErrBound},
		{[]api.Instr{{Op: "same", B: 7, To: "b"}}, 0, api.ErrNone},
		{[]api.Instr{{Op: "same", B: 7, To: "B"}}, 0, api.ErrName},
		{[]api.Instr{label, {Op: "label", A: 1, To: "a"}}, 1, api.ErrShape},
	} {
		t.Log(i)
		wantErr(t, x.l, x.at, x.want)
	}
}

// P31: at most MaxCode, ahead of all else.
func TestMaxCode(t *testing.T) {
	l := slices.Repeat([]api.Instr{{Op: "fence"}}, api.MaxCode)
	if err := Check(l); err != nil {
		t.Error(err)
	}
	for _, x := range []api.Instr{{Op: "fence"}, {}} {
		long := append(slices.Clone(l), x)
		if x.Op == "" {
			long[0] = x
		}
		if err := Check(long); err != api.ErrBound {
			t.Error(err)
		}
		if s, err := Text(long); s != "" || err != api.ErrBound {
			t.Error(s, err)
		}
	}
}

// P31: where each label is set first, whatever else the code is.
func TestSetLabels(t *testing.T) {
	got := Labels([]api.Instr{{Op: "goto", To: "c"}, {Op: "label", To: "a"}, {}, {Op: "label", To: "b"}, {Op: "label", To: "a"}})
	if len(got) != 2 || got["a"] != 1 || got["b"] != 3 {
		t.Error(got)
	}
	if got := Labels(nil); len(got) != 0 {
		t.Error(got)
	}
}
