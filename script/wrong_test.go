package script

import (
	"slices"
	"strings"
	"testing"

	"quiescent/api"
)

// P130, P131: lines that are none, told ahead of what their numbers are; they do nothing.
func TestWrongLines(t *testing.T) {
	lines := []string{
		"", " ", "\n", "what", "Step 0", "STEP 0", "steps 0", "ste 0", "ok", "0", "step0", "step\t0", " step 0", "step 0 ", "step  0", "step 0\n", "step 0\r", "step\x00 0", "\xff",
		"step", "step ", "step a", "step 0 0", "step 00", "step 01", "step -0", "step -1", "step +1", "step 1.", "step 0x1", "step 1_0", "step 1e0", "step ٣", "step ０", "step \xff", "step 100000", "step 000000", "step 99999999999999999999",
		"drain", "drain ", "drain 0 0", "drain 00", "drain -1", "drain 100000", "drain  0",
		"run", "run ", "run  0", "run 0 ", "run 0  0", "run 00", "run 0 00", "run 0 -1", "run -1 0", "run 0 100000", "run 0,0", "run a", "run 0 0 0 0 b",
		"reg", "reg 0", "reg 0 ", "reg 0 0 0", "reg 0 00", "reg 00 0", "reg 0 -1", "reg 0 100000", "reg 9 a", "reg a 9", "reg  0 0",
		"marks ", "marks 0", " marks", "mark", "faults 0", "faults ", "fault", "cells 1", "cells ", "cell", "reset ", "reset 0", "resets",
		"done", "done ", "done 0 0", "done 00", "done x", "done 100000", "walk", "walk ", "walk 10 10", "walk 010", "walk -1", "walk 100000", "walk a",
		strings.Repeat(" ", 100000), strings.Repeat("9", 100000), "step " + strings.Repeat("0", 100000), "run" + strings.Repeat(" 0", 100000) + " ",
	}
	codes := textsOf("alloc 0; mark 0; store 0 0 0; need 1; fence", "label a; goto a")
	for _, line := range lines {
		wantTalk(t, codes, line+" = quiescent: text")
		wantTalk(t, codes, "run 0 0 0 0 = 4", line+" = quiescent: text", "marks = 0:1", "faults = 1", "cells = 1", "reg 0 0 = 1", "done 0 = no", "drain 0 = ok", "step 0 = ok", "done 0 = yes")
	}
}

// P131: an error's text, the first one that is so; what has one changes nothing.
func TestAnswersOfErrors(t *testing.T) {
	wantTalk(t, textsOf("stop", "alloc 0"),
		"step 0 = "+api.ErrDone.Error(), "step 2 = "+api.ErrBound.Error(), "drain 0 = "+api.ErrNone.Error(), "drain 2 = "+api.ErrBound.Error(), "reg 2 8 = "+api.ErrBound.Error(), "walk 0 = "+api.ErrBound.Error(), "walk 1 = "+api.ErrBound.Error(), "walk 60001 = "+api.ErrBound.Error(), "step = "+api.ErrText.Error(),
		"marks = nothing", "faults = 0", "cells = 0", "done 1 = no", "walk 2 = 2 1", "step 1 = ok", "step 1 = quiescent: done", "cells = 1", "reg 1 0 = 1")
}

// P130: too many lines, ahead of all else.
func TestTooManyLines(t *testing.T) {
	for _, count := range []int{api.MaxLines + 1, api.MaxLines + 2, 100000} {
		for _, codes := range [][]string{nil, textsOf("fence"), textsOf("what"), make([]string, api.MaxThreads+1)} {
			wantError(t, codes, make([]string, count), api.ErrBound, -1)
			wantError(t, codes, slices.Repeat([]string{"step 0"}, count), api.ErrBound, -1)
		}
	}
}

// P130: the first text that has an error tells it, without the place that it may have; also ahead of too many threads.
func TestWrongCodes(t *testing.T) {
	for s, want := range map[string]error{
		"what": api.ErrText, "fence\n\n": api.ErrText, "mark 00": api.ErrText, "fence\nmark 8": api.ErrBound, "goto a": api.ErrNone, "label a\nlabel a": api.ErrName, "goto A": api.ErrName,
		strings.Repeat("stop\n", api.MaxCode+1): api.ErrBound, strings.Repeat(" ", api.MaxText+1): api.ErrBound, strings.Repeat(" ", api.MaxText): api.ErrText,
	} {
		for _, lines := range [][]string{nil, {"step 0", "marks"}, make([]string, api.MaxLines)} {
			wantError(t, []string{s}, lines, want, 0)
			wantError(t, []string{"", "fence", s}, lines, want, 2)
			wantError(t, []string{"fence", s, "label a\nlabel a", s, "goto a", "what"}, lines, want, 1)
			wantError(t, append(make([]string, api.MaxThreads), s), lines, want, api.MaxThreads)
			wantError(t, append(make([]string, 1000), s, "what"), lines, want, 1000)
		}
	}
}

// P130: as many threads as a machine may have.
func TestHowManyThreads(t *testing.T) {
	for _, count := range []int{0, api.MaxThreads + 1, 1000} {
		wantError(t, make([]string, count), nil, api.ErrBound, -1)
		wantError(t, make([]string, count), []string{"marks", "what"}, api.ErrBound, -1)
	}
	wantError(t, nil, nil, api.ErrBound, -1)
}

// P130: the longest code and the longest text are taken.
func TestLongestCode(t *testing.T) {
	longest := strings.Repeat("stop\n", api.MaxCode)
	wantTalk(t, slices.Repeat([]string{longest}, api.MaxThreads), "done 5 = yes", "walk 1 = 1 1")
	text := "label abcdefghijkl\nconst 0 1234567890\n" + strings.Repeat("zero 0 abcdefghijkl\n", api.MaxCode-3) + "same 0 0 abcdefghijkl\n"
	if len(text) != api.MaxText {
		t.Fatal(len(text))
	}
	wantTalk(t, []string{text}, "run 0 0 0 = 3", "done 0 = no", "reg 0 0 = 1234567890")
	wantTalk(t, slices.Repeat([]string{strings.Repeat("mark 0\n", api.MaxCode)}, 2), "run"+strings.Repeat(" 0", api.MaxCode+1)+" = 2000", "done 0 = yes", "done 1 = no")
}
