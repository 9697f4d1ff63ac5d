package side

import (
	"math"
	"slices"
	"strconv"
	"strings"
	"testing"

	"quiescent/api"
	"quiescent/code"
	"quiescent/judge"
	"quiescent/mach"
	"quiescent/plain"
)

func flavours() []int { return []int{api.Fenced, api.Forced, api.Counted, api.Joined} }

// notWorkers are numbers of workers that may not be.
func notWorkers() []int { return []int{math.MinInt, -1, 0, api.Workers + 1, math.MaxInt} }

// op of a word: its kind, and its number right behind it, as in put5; else 0.
func op(word string) api.Op {
	at := strings.IndexAny(word, "-0123456789")
	if at < 0 {
		return api.Op{Kind: word}
	}
	n, _ := strconv.Atoi(word[at:])
	return api.Op{Kind: word[:at], N: n}
}

// clientOf words: of each thread some.
func clientOf(words ...string) [][]api.Op {
	var l [][]api.Op
	for _, w := range words {
		var ops []api.Op
		for _, word := range strings.Fields(w) {
			ops = append(ops, op(word))
		}
		l = append(l, ops)
	}
	return l
}

// codesOf texts that have "; " between their instructions.
func codesOf(t *testing.T, texts ...string) [][]api.Instr {
	t.Helper()
	codes := make([][]api.Instr, len(texts))
	for i, s := range texts {
		l, err := code.Read(strings.ReplaceAll(s, "; ", "\n"))
		if err != nil {
			t.Fatal(s, err)
		}
		codes[i] = l
	}
	return codes
}

// startOf threads: two cells are there, of three, which registers 6 and 7 of each thread name.
func startOf(threads int) mach.Start {
	names := []int{0, 0, 0, 0, 0, 0, 1, 2}
	return mach.Start{Cells: 3, Init: [][]int{{10, 11}, {20}}, Regs: slices.Repeat([][]int{names}, threads)}
}

func mark(thread, n int) mach.Mark { return mach.Mark{Thread: thread, N: n} }

// alone is what is seen of a machine that nobody else has.
func alone(t *testing.T, s mach.Start, codes [][]api.Instr, script []int) Seen {
	t.Helper()
	m, err := mach.New(s, codes)
	if err != nil {
		t.Fatal(err)
	}
	seen := Seen{Done: true}
	for _, n := range script[:min(len(script), api.MaxSteps)] {
		seen.Steps += m.Run([]int{n})
	}
	for thread := range codes {
		seen.Done = seen.Done && m.Done(thread)
	}
	seen.Marks, seen.Faults, seen.Cells = m.Marks(), m.Faults(), m.Cells()
	return seen
}

func sameSeen(a, b Seen) bool {
	return slices.Equal(a.Marks, b.Marks) && a.Faults == b.Faults && a.Steps == b.Steps && a.Cells == b.Cells && a.Done == b.Done
}

func sameVerdict(a, b judge.Verdict) bool {
	return a.Kind == b.Kind && a.States == b.States && slices.Equal(a.Way, b.Way)
}

// wantErr at a place, -1 where it is bare; a place behind the first one is one too many.
func wantErr(t *testing.T, err, want error, at int) {
	t.Helper()
	f, placed := err.(*api.Fault)
	if !placed {
		if err != want || at != -1 {
			t.Error(err, "want", want, "at", at)
		}
		return
	}
	if _, place := plain.Code(err); f.Err != want || place != at {
		t.Error(f.Err, "at", f.At, "want", want, "at", at)
	}
}

// counter gives numbers below n by a short rule, so that each run is the same.
func counter(seed uint32) func(n int) int {
	return func(n int) int {
		seed = seed*1664525 + 1013904223
		return int(seed>>16) % n
	}
}
