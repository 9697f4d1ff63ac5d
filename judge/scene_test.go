package judge

import (
	"slices"
	"strconv"
	"strings"
	"testing"

	"quiescent/api"
	"quiescent/client"
	"quiescent/code"
	"quiescent/mach"
)

func flavours() []int { return []int{api.Fenced, api.Forced, api.Counted, api.Joined} }

// op of a word: its kind, and its number right behind it, as in put5; else 0.
func op(word string) api.Op {
	at := strings.IndexAny(word, "-0123456789")
	if at < 0 {
		return api.Op{Kind: word}
	}
	n, _ := strconv.Atoi(word[at:])
	return api.Op{Kind: word[:at], N: n}
}

// clientOf words: of each thread some.
func clientOf(words ...string) [][]api.Op {
	var l [][]api.Op
	for _, w := range words {
		var ops []api.Op
		for _, word := range strings.Fields(w) {
			ops = append(ops, op(word))
		}
		l = append(l, ops)
	}
	return l
}

// machine of a client.
func machine(t *testing.T, f int, l [][]api.Op) *mach.Machine {
	t.Helper()
	s, codes, err := client.Build(f, l)
	if err != nil {
		t.Fatal(f, l, err)
	}
	m, err := mach.New(s, codes)
	if err != nil {
		t.Fatal(f, l, err)
	}
	return m
}

func sameVerdict(a, b Verdict) bool {
	return a.Kind == b.Kind && a.States == b.States && slices.Equal(a.Way, b.Way)
}

// codesOf texts that have "; " between their instructions.
func codesOf(t *testing.T, texts ...string) [][]api.Instr {
	t.Helper()
	codes := make([][]api.Instr, len(texts))
	for i, s := range texts {
		l, err := code.Read(strings.ReplaceAll(s, "; ", "\n"))
		if err != nil {
			t.Fatal(s, err)
		}
		codes[i] = l
	}
	return codes
}

// startOf threads: two cells are there, of three, which registers 6 and 7 of each thread name.
func startOf(threads int) mach.Start {
	names := []int{0, 0, 0, 0, 0, 0, 1, 2}
	return mach.Start{Cells: 3, Init: [][]int{{10, 11}, {20}}, Regs: slices.Repeat([][]int{names}, threads)}
}

// counter gives numbers below n by a short rule, so that each run is the same.
func counter(seed uint32) func(n int) int {
	return func(n int) int {
		seed = seed*1664525 + 1013904223
		return int(seed>>16) % n
	}
}
