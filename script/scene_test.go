package script

import (
	"strings"
	"testing"

	"quiescent/api"
	"quiescent/plain"
)

// textsOf codes that have "; " between their instructions.
func textsOf(codes ...string) []string {
	l := make([]string, len(codes))
	for i, s := range codes {
		l[i] = strings.ReplaceAll(s, "; ", "\n")
	}
	return l
}

// answers to lines, as many as there are lines.
func answers(t *testing.T, codes []string, lines ...string) []string {
	t.Helper()
	got, err := Run(codes, lines)
	if err != nil || len(got) != len(lines) {
		t.Fatalf("%.300q: %.300q, %v", codes, got, err)
	}
	return got
}

// wantTalk of commands and their answers, " = " between.
func wantTalk(t *testing.T, codes []string, talk ...string) {
	t.Helper()
	var lines, want []string
	for _, s := range talk {
		line, answer, ok := strings.Cut(s, " = ")
		if !ok {
			t.Fatal("no answer:", s)
		}
		lines, want = append(lines, line), append(want, answer)
	}
	for i, got := range answers(t, codes, lines...) {
		if got != want[i] {
			t.Errorf("%.300q, line %d, %.300q: %.300q, not %.300q", codes, i, lines[i], got, want[i])
		}
	}
}

// wantError at a place, -1 where it is bare; a place behind the first one is one too many.
func wantError(t *testing.T, codes, lines []string, want error, at int) {
	t.Helper()
	got, err := Run(codes, lines)
	if got != nil {
		t.Errorf("%.300q: answers with an error: %q", codes, got)
	}
	f, placed := err.(*api.Fault)
	if !placed {
		if err != want || at != -1 {
			t.Errorf("%.300q: %v, want %v at %d", codes, err, want, at)
		}
		return
	}
	if _, place := plain.Code(err); f.Err != want || place != at {
		t.Errorf("%.300q: %v at %d, want %v at %d", codes, f.Err, f.At, want, at)
	}
}

// counter gives numbers below n by a short rule, so that each run is the same.
func counter(seed uint32) func(n int) int {
	return func(n int) int {
		seed = seed*1664525 + 1013904223
		return int(seed>>16) % n
	}
}
