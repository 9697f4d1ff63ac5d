package code

import (
	"slices"
	"strings"
	"testing"

	"quiescent/api"
)

// P32: each instruction is a line: its name, its numbers, its label.
func TestLines(t *testing.T) {
	for s, want := range map[string]api.Instr{
		"const 7 4294967295": {Op: "const", A: 7, B: 4294967295},
		"const 0 0":          {Op: "const"},
		"move 1 2":           {Op: "move", A: 1, B: 2},
		"add 1 2 3":          {Op: "add", A: 1, B: 2, C: 3},
		"sub 0 0 7":          {Op: "sub", C: 7},
		"and 4 5 6":          {Op: "and", A: 4, B: 5, C: 6},
		"xor 6 5 4":          {Op: "xor", A: 6, B: 5, C: 4},
		"load 7 6 3":         {Op: "load", A: 7, B: 6, C: 3},
		"store 6 7 0":        {Op: "store", A: 6, B: 7},
		"swap 0 1 2":         {Op: "swap", B: 1, C: 2},
		"cas 7 6 3":          {Op: "cas", A: 7, B: 6, C: 3},
		"alloc 7":            {Op: "alloc", A: 7},
		"free 0":             {Op: "free"},
		"fence":              {Op: "fence"},
		"force":              {Op: "force"},
		"zero 7 l.1":         {Op: "zero", A: 7, To: "l.1"},
		"same 6 7 l.1":       {Op: "same", A: 6, B: 7, To: "l.1"},
		"goto l.1":           {Op: "goto", To: "l.1"},
		"label l.1":          {Op: "label", To: "l.1"},
		"mark 5":             {Op: "mark", A: 5},
		"need 4":             {Op: "need", A: 4},
		"stop":               {Op: "stop"},
	} {
		l := whole(want)
		s += "\n"
		if len(l) > 1 {
			s += "label l.1\n"
		}
		if got, err := Text(l); got != s || err != nil {
			t.Errorf("%v: %q, %v", l, got, err)
		}
		for _, s := range []string{s, strings.TrimSuffix(s, "\n")} {
			if got, err := Read(s); !slices.Equal(got, l) || err != nil {
				t.Errorf("%q: %v, %v", s, got, err)
			}
		}
	}
}

// P32: no code is no text.
func TestNothing(t *testing.T) {
	for _, l := range [][]api.Instr{nil, {}} {
		if s, err := Text(l); s != "" || err != nil {
			t.Errorf("%q, %v", s, err)
		}
	}
	if l, err := Read(""); len(l) != 0 || err != nil {
		t.Error(l, err)
	}
}

func wantNone(t *testing.T, s string, at int, want error) {
	t.Helper()
	l, err := Read(s)
	t.Logf("%.40q", s)
	wantFault(t, err, at, want)
	if l != nil {
		t.Error("code with an error:", l)
	}
}

// P32: lines that are none.
func TestWrongLines(t *testing.T) {
	for _, s := range []string{
		"\n", " ", "what", "Stop", "STOP", " stop", "stop ", "stop\r", "\tstop", "stop\t", "stop stop", "stop 0", "stop a", "fence 0", "stop\x00", "\xff",
		"mark", "mark ", "mark  0", "mark 0 ", "mark 0 0", "mark\t0", "mark a", "mark 0 a", "mark 00", "mark 01", "mark -0", "mark -1", "mark +1", "mark 1.", "mark 0x1", "mark 1_0", "mark ٣", "mark 1e0", "mark \xff",
		"const", "const 0", "const 0 ", "const 0 0 0", "const 0 01", "const 0 -1", "const 0 00000000001", "const 0 10000000000", "const 10000000000 0", "const 0 99999999999999999999", "const 0 a",
		"add 1 2", "add 1 2 3 4", "add 1 2 a", "goto", "label", "goto a a", "goto  a", "goto a ", "label 1 a", "zero a", "zero 1", "zero a 1", "zero 1 1 a", "zero 01 a", "same 1 a", "same 1 2", "same 1 2 3 a",
		strings.Repeat(" ", api.MaxText), strings.Repeat("9", api.MaxText),
	} {
		wantNone(t, s, 0, api.ErrText)
		if len(s)+12 < api.MaxText {
			wantNone(t, "fence\nstop\n"+s+"\n", 2, api.ErrText)
		}
	}
	for s, at := range map[string]int{"fence\n\n": 1, "\nfence": 0, "fence\n\nfence": 1, "fence\n ": 1, "fence\r\nfence": 0, "stop\nwhat\nmark\n": 1} {
		wantNone(t, s, at, api.ErrText)
	}
}

// P32: decimal digits, at most so many, without needless zeros.
func TestNumber(t *testing.T) {
	for s, want := range map[string]int{"0": 0, "7": 7, "10": 10, "99999": 99999} {
		for most := len(s); most < 8; most++ {
			if n, ok := Number(s, most); n != want || !ok {
				t.Error(s, most, n, ok)
			}
		}
		if n, ok := Number(s, len(s)-1); n != 0 || ok {
			t.Error(s, n, ok)
		}
	}
	for _, s := range []string{"", " ", "00", "01", "-0", "-1", "+1", "1 ", " 1", "1.", "0x1", "1_0", "1e0", "a", "٣", "\xff", "99999999999999999999"} {
		for _, most := range []int{-1, 0, 1, 5, 50} {
			if n, ok := Number(s, most); n != 0 || ok {
				t.Error(s, most, n, ok)
			}
		}
	}
}

// P32: a line may have what Check does not take, then it tells.
func TestReadChecks(t *testing.T) {
	for s, want := range map[string]error{
		"mark 8": api.ErrBound, "mark 9999999999": api.ErrBound, "const 8 0": api.ErrBound, "const 0 4294967296": api.ErrBound, "load 0 0 4": api.ErrBound, "cas 0 7 0": api.ErrBound, "same 0 8 A": api.ErrBound,
		"goto A": api.ErrName, "goto ": api.ErrName, "label \t": api.ErrName, "zero 0 1": api.ErrName, "goto \xff": api.ErrName, "label abcdefghijklm": api.ErrName, "goto a": api.ErrNone,
	} {
		wantNone(t, s, 0, want)
		wantNone(t, "label b\ngoto b\n"+s+"\n", 2, want)
		wantNone(t, s+"\nstop\nwhat\n", 2, api.ErrText)
	}
	wantNone(t, "label a\nstop\nlabel a", 2, api.ErrName)
	if l, err := Read(strings.Repeat("stop\n", api.MaxCode+1)); l != nil || err != api.ErrBound {
		t.Error(len(l), err)
	}
	if l, err := Read(strings.Repeat("stop\n", api.MaxCode)); len(l) != api.MaxCode || err != nil {
		t.Error(len(l), err)
	}
	wantNone(t, strings.Repeat("stop\n", api.MaxCode+1)+"what", api.MaxCode+1, api.ErrText)
}

// long is code of MaxCode instructions whose text has that many bytes, from MaxText - 1 on.
func long(bytes int) []api.Instr {
	l := slices.Repeat([]api.Instr{{Op: "zero", To: "abcdefghijkl"}}, api.MaxCode) // of 20 bytes each
	l[0] = api.Instr{Op: "label", To: "abcdefghijkl"}                              // of 19
	more := bytes - (api.MaxText - 1)
	if more%2 == 1 {
		l[1] = api.Instr{Op: "const", B: 1234567890} // of 19
		more++
	}
	for i := range more / 2 {
		l[2+i] = api.Instr{Op: "same", To: "abcdefghijkl"} // of 22
	}
	return l
}

// P32, P33: a text has at most MaxText bytes, also one that is written.
func TestMaxText(t *testing.T) {
	for _, bytes := range []int{api.MaxText - 1, api.MaxText} {
		l := long(bytes)
		s, err := Text(l)
		if len(s) != bytes || err != nil {
			t.Error(bytes, len(s), err)
		}
		if got, err := Read(s); !slices.Equal(got, l) || err != nil {
			t.Error(bytes, len(got), err)
		}
	}
	for _, bytes := range []int{api.MaxText + 1, api.MaxText + 2, api.MaxText + 3000} {
		l := long(bytes)
		if err := Check(l); err != nil {
			t.Error(bytes, err)
		}
		if s, err := Text(l); s != "" || err != api.ErrBound {
			t.Error(bytes, len(s), err)
		}
	}
	if l, err := Read(strings.Repeat("stop\n", api.MaxText/5) + "\n"); l != nil || err != api.ErrBound {
		t.Error(l, err)
	}
	wantNone(t, strings.Repeat("x", api.MaxText), 0, api.ErrText)
}
