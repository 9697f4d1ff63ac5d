package grace

import (
	"slices"
	"strconv"
	"strings"
	"testing"

	"quiescent/api"
	"quiescent/code"
	"quiescent/mach"
)

// piece is a call that makes code.
type piece func(f int, p string) ([]api.Instr, error)

func pieces() map[string]piece {
	return map[string]piece{"enter": Enter, "leave": Leave, "rest": Rest, "gone": Gone, "wait": Wait}
}

func flavours() []int { return []int{api.Fenced, api.Forced, api.Counted, api.Joined} }

// counter gives numbers below n by a short rule, so that each run is the same.
func counter(seed uint32) func(n int) int {
	return func(n int) int {
		seed = seed*1664525 + 1013904223
		return int(seed>>16) % n
	}
}

// must make it.
func must(t *testing.T, how piece, f int, p string) []api.Instr {
	t.Helper()
	l, err := how(f, p)
	if err != nil {
		t.Fatal(f, p, err)
	}
	return l
}

// text of a word of a play that is no piece: what readers and writers do, by registers 3 and 4.
func text(word string) string {
	switch word {
	case "read": // what is published is there, and not 0
		return "load 3 5 0; load 4 3 0; need 4"
	case "again": // so is what read has found
		return "load 4 3 0; need 4"
	case "peek":
		return "load 3 5 0; load 4 3 0"
	case "put": // something new is published, and register 3 names what was so
		return "alloc 3; const 4 7; store 3 4 0; swap 3 5 0"
	case "late": // the same, but what is published waits
		return "load 3 5 0; alloc 2; const 4 7; store 2 4 0; store 5 2 0"
	case "swap": // the same, but the new one is the thread's own cell, which is there anyway
		return "move 3 6; swap 3 5 0"
	case "fill": // more waits
		return "store 5 4 3"
	case "open", "close", "begin", "end": // notes of sections and of waits
		return "const 4 " + strconv.Itoa(slices.Index(notes(), word)) + "; mark 4"
	case "free":
		return "free 3"
	}
	return word
}

func notes() []string { return []string{"open", "close", "begin", "end"} }

// play is code of a thread, told by words; a number behind one, as in enter*3, is how often it stands there.
func play(t *testing.T, f int, words string) []api.Instr {
	t.Helper()
	var l []api.Instr
	count := 0
	for _, each := range strings.Fields(words) {
		word, digits, found := strings.Cut(each, "*")
		times, _ := strconv.Atoi(digits)
		if !found {
			times = 1
		}
		for range times {
			count++
			l = append(l, said(t, f, word, count)...)
		}
	}
	return l
}

// said is one word's code. No name of one begins that of another one: all are as long.
func said(t *testing.T, f int, word string, n int) []api.Instr {
	t.Helper()
	if how, ok := pieces()[word]; ok {
		return must(t, how, f, string([]byte{'a', byte('a' + n/26), byte('a' + n%26)}))
	}
	switch word {
	case "from":
		return []api.Instr{{Op: "label", To: "from"}}
	case "ever":
		return []api.Instr{{Op: "goto", To: "from"}}
	}
	l, err := code.Read(strings.ReplaceAll(text(word), "; ", "\n"))
	if err != nil {
		t.Fatal(word, err)
	}
	return l
}

func plays(t *testing.T, f int, words ...string) [][]api.Instr {
	t.Helper()
	var codes [][]api.Instr
	for _, w := range words {
		codes = append(codes, play(t, f, w))
	}
	return codes
}

// world of threads: cell 0 is the hub, then come their own cells, then one whose word 0 names what is published, which comes last.
func world(t *testing.T, f, threads int) mach.Start {
	t.Helper()
	first, err := Link(f)
	if err != nil {
		t.Fatal(err)
	}
	h, _ := Hub(f)
	if first >= 0 {
		h[first] = 2
	}
	s := mach.Start{Cells: api.MaxCells, Init: [][]int{h}}
	for n := range threads {
		o, _ := Own(f)
		if first >= 0 && n < threads-1 {
			o[1] = n + 3
		}
		s.Init = append(s.Init, o)
		s.Regs = append(s.Regs, []int{0, 0, 0, 0, 0, threads + 2, n + 2, 1})
	}
	s.Init = append(s.Init, []int{threads + 3}, []int{1})
	return s
}

// extra cells of a world, which are none of what is put.
func extra(threads int) int { return threads + 3 }

// machine of threads that play so.
func machine(t *testing.T, f int, words ...string) *mach.Machine {
	t.Helper()
	return machineOf(t, world(t, f, len(words)), plays(t, f, words...))
}

func machineOf(t *testing.T, s mach.Start, codes [][]api.Instr) *mach.Machine {
	t.Helper()
	m, err := mach.New(s, codes)
	if err != nil {
		t.Fatal(err)
	}
	return m
}

// alone goes on with one thread, and nobody drains: it tells if the thread is done then.
func alone(m *mach.Machine, thread int) bool {
	for range 3000 {
		m.Step(thread)
	}
	return m.Done(thread)
}

// inTurns goes on with all threads by at most as many numbers as a run may have, from that one on, and tells if these are done then.
func inTurns(m *mach.Machine, from int, threads ...int) bool {
	for i := range api.MaxSteps {
		if i%100 == 0 && allDone(m, threads) {
			return true
		}
		m.Run([]int{from + i})
	}
	return allDone(m, threads)
}

func allDone(m *mach.Machine, threads []int) bool {
	return !slices.ContainsFunc(threads, func(n int) bool { return !m.Done(n) })
}

// upTo that many threads.
func upTo(n int) []int {
	var l []int
	for i := range n {
		l = append(l, i)
	}
	return l
}
