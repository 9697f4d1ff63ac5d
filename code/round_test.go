package code

import (
	"slices"
	"strings"
	"testing"

	"quiescent/api"
)

// counter gives numbers below n by a short rule, so that each run is the same.
func counter(seed uint32) func(n int) int {
	return func(n int) int {
		seed = seed*1664525 + 1013904223
		return int(seed>>16) % n
	}
}

var names = []string{"a", "b.1", "abcdefghijkl", "stop", "z9"}

// ops in an order that does not change from run to run.
func ops() []string {
	var l []string
	for op := range fields {
		l = append(l, op)
	}
	slices.Sort(l)
	return l
}

// some code that Check takes.
func some(next func(n int) int) []api.Instr {
	var l []api.Instr
	for _, name := range names {
		l = append(l, api.Instr{Op: "label", To: name})
	}
	all := ops()
	for range next(40) {
		x := api.Instr{Op: all[next(len(all))]}
		if x.Op == "label" {
			continue
		}
		for n, f := range fields[x.Op] {
			if f == 't' {
				x.To = names[next(len(names))]
			} else if v := greatest[f]; v > 7 {
				x = with(x, n, v/(1+next(70000)))
			} else {
				x = with(x, n, next(v+1))
			}
		}
		l = slices.Insert(l, next(len(l)+1), x)
	}
	return l
}

// P33: what is written is read, and what is read is written so.
func TestReadAsWritten(t *testing.T) {
	next := counter(1)
	for range 2000 {
		l := some(next)
		s, err := Text(l)
		if err != nil {
			t.Fatal(l, err)
		}
		got, err := Read(s)
		if !slices.Equal(got, l) || err != nil {
			t.Fatalf("%q: %v, %v", s, got, err)
		}
		if strings.Count(s, "\n") != len(l) {
			t.Fatalf("%q: as many lines as %d", s, len(l))
		}
	}
}

// change a few bytes of a text.
func change(s string, next func(n int) int) string {
	b := []byte(s)
	for range 1 + next(3) {
		at := next(len(b) + 1)
		switch end := min(at+1+next(2), len(b)); next(3) {
		case 0:
			b = slices.Delete(b, at, end)
		case 1:
			b = slices.Insert(b, at, "\n 0a.9Az-\x00\xff"[next(11)])
		default:
			b = slices.Insert(b, at, b[at:end]...)
		}
	}
	return string(b)
}

// P1, P33: whatever bytes a text has, it is code and is written again as it is, or it has an error.
func TestAnyText(t *testing.T) {
	next := counter(2)
	read := map[bool]int{}
	for range 20000 {
		s, err := Text(some(next))
		if err != nil {
			t.Fatal(err)
		}
		s = change(s, next)
		l, err := Read(s)
		read[err == nil]++
		if err != nil && l != nil {
			t.Fatalf("%q: %v, %v", s, l, err)
		}
		if err != nil {
			continue
		}
		again, err := Text(l)
		if err != nil || strings.TrimSuffix(again, "\n") != strings.TrimSuffix(s, "\n") {
			t.Fatalf("%q: %q, %v", s, again, err)
		}
	}
	if min(read[true], read[false]) < 300 {
		t.Error("one of both came too seldom:", read)
	}
}

// P4: what is handed over stays, also behind its length, and a later change does not show.
func TestOnlyRead(t *testing.T) {
	l := make([]api.Instr, 2, 4)
	l[0], l[1] = api.Instr{Op: "label", To: "a"}, api.Instr{Op: "goto", To: "a"}
	whole := l[:4]
	whole[2] = api.Instr{Op: "what"}
	was := slices.Clone(whole)
	if err := Check(l); err != nil {
		t.Error(err)
	}
	s, err := Text(l)
	if s != "label a\ngoto a\n" || err != nil {
		t.Error(s, err)
	}
	if !slices.Equal(whole, was) {
		t.Error(whole)
	}
	first, _ := Read(s)
	second, _ := Read(s)
	first[0].To = "b"
	if second[0].To != "a" {
		t.Error("two answers share", second)
	}
}
