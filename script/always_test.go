package script

import (
	"fmt"
	"slices"
	"strconv"
	"strings"
	"sync"
	"testing"

	"quiescent/api"
	"quiescent/code"
	"quiescent/mach"
	"quiescent/walk"
)

// someCode of a few instructions: cells come and go, and stores wait for those that are gone.
func someCode(next func(n int) int) string {
	kinds := []string{"alloc 0", "alloc 1", "const 0 1", "const 1 2", "const 2 7", "store 0 1 0", "store 0 0 1", "store 0 1 2", "store 1 0 3", "load 2 0 0", "load 3 1 3", "free 0", "free 1", "mark 0", "mark 1", "mark 2", "need 2", "add 2 2 0", "swap 1 0 1", "cas 0 2 0", "fence", "force", "zero 2 a", "same 0 1 a", "goto a", "stop"}
	l := []string{"label a", "alloc 0"}
	for range next(10) {
		l = append(l, kinds[next(len(kinds))])
	}
	return strings.Join(l, "\n")
}

func wrongLines() []string { return []string{"", "step", "run", "walk 010", "cells 1", "marks "} }

// someLine is a command mostly, now and then one whose numbers are too great, or no command.
func someLine(next func(n int) int) string {
	number := func(n int) string { return " " + strconv.Itoa(next(n)) }
	switch next(12) {
	case 0:
		return "step" + number(5)
	case 1:
		return "drain" + number(5)
	case 2:
		return "reg" + number(5) + number(10)
	case 3:
		return "done" + number(5)
	case 4:
		return "walk" + number(60)
	case 5:
		return wrongLines()[next(len(wrongLines()))]
	case 6:
		return "marks"
	case 7:
		return "faults"
	case 8:
		return "cells"
	case 9:
		if next(3) == 0 {
			return "reset"
		}
	}
	line, most := "run", 100000
	if next(2) == 0 {
		most = 3 // steps mostly
	}
	for range 1 + next(12) {
		line += number(most)
	}
	return line
}

func some(count int, one func(next func(n int) int) string, next func(n int) int) []string {
	l := make([]string, count)
	for i := range l {
		l[i] = one(next)
	}
	return l
}

// byHand is what a line is answered, told by a machine that is handed over.
func byHand(t *testing.T, m *mach.Machine, s mach.Start, codes [][]api.Instr, line string) string {
	t.Helper()
	if slices.Contains(wrongLines(), line) {
		return "quiescent: text"
	}
	name, rest, _ := strings.Cut(line, " ")
	var n []int
	for _, s := range strings.Fields(rest) {
		v, _ := strconv.Atoi(s)
		n = append(n, v)
	}
	text := func(s string, err error) string {
		if err != nil {
			s = err.Error()
		}
		return s
	}
	switch name {
	case "step":
		return text("ok", m.Step(n[0]))
	case "drain":
		return text("ok", m.Drain(n[0]))
	case "reg":
		v, err := m.Reg(n[0], n[1])
		return text(fmt.Sprint(v), err)
	case "done":
		return map[bool]string{true: "yes", false: "no"}[m.Done(n[0])]
	case "faults":
		return fmt.Sprint(m.Faults())
	case "cells":
		return fmt.Sprint(m.Cells())
	case "run":
		return fmt.Sprint(m.Run(n))
	case "marks":
		return marksByHand(m)
	case "walk":
		told, err := walk.All(s, codes, n[0])
		return text(toldByHand(told), err)
	case "reset":
		first, err := mach.New(s, codes)
		*m = *first
		return text("ok", err)
	}
	t.Fatal(line)
	return ""
}

func marksByHand(m *mach.Machine) string {
	l := ""
	for _, x := range m.Marks() {
		l += fmt.Sprintf("%d:%d ", x.Thread, x.N)
	}
	if l == "" {
		return "nothing"
	}
	return strings.TrimSuffix(l, " ")
}

func toldByHand(told walk.Told) string {
	if told.Fault {
		return "fault " + strings.Trim(fmt.Sprint(told.Way), "[]")
	}
	return fmt.Sprint(told.States, told.Ends)
}

// kindOf an answer to a line: an error's text, a word, or some that is not 0.
func kindOf(line, answer string) string {
	name, _, _ := strings.Cut(line, " ")
	first, rest, _ := strings.Cut(answer, " ")
	switch {
	case first == "quiescent:":
		return name + " " + rest
	case slices.Contains([]string{"0", "fault", "nothing", "no"}, first):
		return name + " " + first
	}
	return name + " some"
}

// P130: many lines, held against a machine by hand; each kind of answer comes often.
func TestLinesByHand(t *testing.T) {
	next := counter(13)
	count := map[string]int{}
	for range 600 {
		codes := some(1+next(3), someCode, next)
		lines := some(api.MaxLines, someLine, next)
		s, read := mach.Start{Cells: api.MaxCells}, make([][]api.Instr, len(codes))
		for i, text := range codes {
			l, err := code.Read(text)
			if err != nil {
				t.Fatal(text, err)
			}
			read[i] = l
		}
		m, err := mach.New(s, read)
		if err != nil {
			t.Fatal(err)
		}
		for i, got := range answers(t, codes, lines...) {
			if want := byHand(t, m, s, read, lines[i]); got != want {
				t.Fatalf("%q, line %d of %q: %q, not %q", codes, i, lines[:i+1], got, want)
			}
			count[kindOf(lines[i], got)]++
		}
	}
	for _, kind := range []string{"step some", "step done", "step bound", "drain some", "drain none", "drain bound", "run some", "run 0", "run text", "reg some", "reg 0", "reg bound", "marks some", "marks nothing", "faults some", "faults 0", "cells some", "cells 0", "done some", "done no", "walk some", "walk fault", "walk bound", "walk text", "reset some"} {
		if count[kind] < 20 {
			t.Error("too few:", kind, count)
		}
	}
}

// P132: behind reset all lines are answered as if nothing had been ahead of it.
func TestReset(t *testing.T) {
	next := counter(132)
	for range 600 {
		codes := some(1+next(3), someCode, next)
		ahead, behind := some(next(50), someLine, next), some(49, someLine, next)
		lines := slices.Concat(ahead, []string{"reset"}, behind)
		got := answers(t, codes, lines...)[len(ahead):]
		want := answers(t, codes, behind...)
		if got[0] != "ok" || !slices.Equal(got[1:], want) {
			t.Fatalf("%q, %q: %q, not %q", codes, lines, got, want)
		}
	}
}

// P132: marks, faults, cells, how often each was given, stores that wait, registers and places are as at the beginning; also behind a second reset.
func TestResetOfEach(t *testing.T) {
	codes := textsOf("alloc 0; free 0; alloc 0; mark 0; const 1 5; store 0 1 0; need 2", "const 0 65; load 1 0 0; label a; add 2 2 1; goto a")
	all := []string{"run 0 0 0 0 0 0 0 = 7", "run 1 1 1 1 = 4", "marks = 0:65", "faults = 1", "cells = 1", "reg 0 0 = 65", "reg 1 0 = 65", "reg 1 1 = 0", "done 0 = yes", "drain 0 = ok", "drain 0 = quiescent: none"}
	waits := []string{"run 0 0 0 0 0 0 = 6"}
	none := []string{"reset = ok", "marks = nothing", "faults = 0", "cells = 0", "reg 0 0 = 0", "reg 0 1 = 0", "reg 1 0 = 0", "done 0 = no", "done 1 = no", "drain 0 = quiescent: none"}
	wantTalk(t, codes, slices.Concat(none, all, none, all, none, waits, none, none, waits, none, all)...)
}

// P2, P4: what is handed over is not changed, what lies behind it is not read, and many calls at once answer what one does.
func TestCallsAtOnce(t *testing.T) {
	next := counter(4)
	codes, lines := append(some(3, someCode, next), "what"), append(some(90, someLine, next), "reset", "reset")
	wasCodes, wasLines := slices.Clone(codes), slices.Clone(lines)
	want := answers(t, codes[:3], lines[:90]...)
	var group sync.WaitGroup
	for range 8 {
		group.Go(func() {
			got, err := Run(codes[:3], lines[:90])
			if !slices.Equal(got, want) || err != nil {
				t.Error(got, err)
			}
			clear(got)
		})
	}
	group.Wait()
	if !slices.Equal(codes, wasCodes) || !slices.Equal(lines, wasLines) {
		t.Error("changed:", codes, lines)
	}
}
