package client

import (
	"slices"
	"strconv"
	"strings"
	"testing"

	"quiescent/api"
	"quiescent/mach"
)

func flavours() []int { return []int{api.Fenced, api.Forced, api.Counted, api.Joined} }

// kinds of ops, each as a word.
func kinds() []string {
	return []string{"enter", "leave", "rest", "wait", "read", "put5", "drop", "later", "flush"}
}

// op of a word: its kind, and its number right behind it, as in put5; else 0.
func op(word string) api.Op {
	at := strings.IndexAny(word, "-0123456789")
	if at < 0 {
		return api.Op{Kind: word}
	}
	n, _ := strconv.Atoi(word[at:])
	return api.Op{Kind: word[:at], N: n}
}

// ops of words with blanks between.
func ops(words string) []api.Op {
	var l []api.Op
	for _, word := range strings.Fields(words) {
		l = append(l, op(word))
	}
	return l
}

// clientOf words: of each thread some.
func clientOf(words ...string) [][]api.Op {
	var l [][]api.Op
	for _, w := range words {
		l = append(l, ops(w))
	}
	return l
}

// build must do it.
func build(t *testing.T, f int, l [][]api.Op) (mach.Start, [][]api.Instr) {
	t.Helper()
	s, codes, err := Build(f, l)
	if err != nil {
		t.Fatal(f, l, err)
	}
	return s, codes
}

func machineOf(t *testing.T, s mach.Start, codes [][]api.Instr) *mach.Machine {
	t.Helper()
	m, err := mach.New(s, codes)
	if err != nil {
		t.Fatal(err)
	}
	return m
}

// machine of a client that is told by words.
func machine(t *testing.T, f int, words ...string) *mach.Machine {
	t.Helper()
	s, codes := build(t, f, clientOf(words...))
	return machineOf(t, s, codes)
}

// alone goes on with one thread, and nobody drains: it tells if the thread is done then.
func alone(m *mach.Machine, thread int) bool {
	for range 3000 {
		m.Step(thread)
	}
	return m.Done(thread)
}

// inTurns goes on by at most as many numbers as a run may have, and tells if all threads are done then.
func inTurns(m *mach.Machine, threads int) bool {
	for i := range api.MaxSteps {
		if i%100 == 0 && allDone(m, threads) {
			return true
		}
		m.Run([]int{i})
	}
	return allDone(m, threads)
}

func allDone(m *mach.Machine, threads int) bool {
	for n := range threads {
		if !m.Done(n) {
			return false
		}
	}
	return true
}

// numbers that one thread has noted.
func numbers(m *mach.Machine, thread int) []int {
	var l []int
	for _, n := range m.Marks() {
		if n.Thread == thread {
			l = append(l, n.N)
		}
	}
	return l
}

// counter gives numbers below n by a short rule, so that each run is the same.
func counter(seed uint32) func(n int) int {
	return func(n int) int {
		seed = seed*1664525 + 1013904223
		return int(seed>>16) % n
	}
}

// lists of at most so many words that one thread may have.
func lists(most int) []string {
	var l []string
	for _, words := range allLists(most, kinds()) {
		if Check(clientOf(words)) == nil {
			l = append(l, words)
		}
	}
	return l
}

// allLists of at most so many of these words, shorter ones first.
func allLists(most int, words []string) []string {
	all := []string{""}
	last := all
	for range most {
		var longer []string
		for _, l := range last {
			for _, w := range words {
				longer = append(longer, strings.TrimSpace(l+" "+w))
			}
		}
		all, last = append(all, longer...), longer
	}
	return all
}

// count of a word among those of a thread.
func count(words, word string) int {
	n := 0
	for _, w := range strings.Fields(words) {
		if w == word {
			n++
		}
	}
	return n
}

func has(words string, some ...string) bool {
	return slices.ContainsFunc(strings.Fields(words), func(w string) bool { return slices.Contains(some, w) })
}
