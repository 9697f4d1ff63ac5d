package walk

import (
	"slices"
	"strings"
	"testing"

	"quiescent/api"
	"quiescent/code"
	"quiescent/mach"
)

// startOf threads: two cells are there, of three, which registers 6 and 7 of each thread name.
func startOf(threads int) mach.Start {
	names := []int{0, 0, 0, 0, 0, 0, 1, 2}
	return mach.Start{Cells: 3, Init: [][]int{{10, 11}, {20}}, Regs: slices.Repeat([][]int{names}, threads)}
}

// codesOf texts that have "; " between their instructions.
func codesOf(t *testing.T, texts ...string) [][]api.Instr {
	t.Helper()
	codes := make([][]api.Instr, len(texts))
	for i, s := range texts {
		l, err := code.Read(strings.ReplaceAll(s, "; ", "\n"))
		if err != nil {
			t.Fatal(s, err)
		}
		codes[i] = l
	}
	return codes
}

func sameTold(a, b Told) bool {
	return a.States == b.States && a.Ends == b.Ends && a.Fault == b.Fault && slices.Equal(a.Way, b.Way)
}

// wantTold asks for all ways, where most is just enough, and more than enough.
func wantTold(t *testing.T, want Told, texts ...string) {
	t.Helper()
	for _, most := range []int{want.States, want.States + 1, api.MaxStates} {
		got, err := All(startOf(len(texts)), codesOf(t, texts...), most)
		if !sameTold(got, want) || err != nil {
			t.Errorf("%q, most %d: %v, %v, want %v", texts, most, got, err, want)
		}
	}
}

// wantMore asks for all ways, where most is too little.
func wantMore(t *testing.T, most int, texts ...string) {
	t.Helper()
	got, err := All(startOf(len(texts)), codesOf(t, texts...), most)
	if !sameTold(got, Told{}) || got.Way != nil || err != api.ErrBound {
		t.Errorf("%q, most %d: %v, %v", texts, most, got, err)
	}
}

// P50: how many states there are, and in how many of them nothing is to be done any more.
func TestStates(t *testing.T) {
	for s, want := range map[string]Told{
		"":                             {States: 1, Ends: 1},
		"stop":                         {States: 1, Ends: 1},
		"stop; need 0":                 {States: 1, Ends: 1},
		"fence; stop; fence":           {States: 2, Ends: 1},
		"const 0 0":                    {States: 2, Ends: 1},
		"label a; goto a":              {States: 2},
		"label a; mark 6; goto a":      {States: 3}, // marks aside
		"label a; xor 0 0 6; goto a":   {States: 6},
		"mark 6; mark 7":               {States: 3, Ends: 1},
		"store 6 7 0":                  {States: 3, Ends: 1}, // done is not the end yet, where it waits
		"store 6 7 0; fence":           {States: 4, Ends: 1},
		"store 6 7 0; store 6 7 1":     {States: 6, Ends: 1},
		"store 7 0 1; load 0 7 1":      {States: 5, Ends: 1}, // the word stays what it was
		"label a; store 6 7 0; goto a": {States: 53},         // 26 of them ahead of the first drain
		"alloc 0; alloc 0; alloc 0":    {States: 4, Ends: 1},
		"const 0 3; label a; zero 0 b; sub 0 0 6; goto a; label b": {States: 17, Ends: 1},
	} {
		wantTold(t, want, s)
	}
}

// P50: threads go on by themselves, and what each makes is put together in all ways.
func TestThreads(t *testing.T) {
	for threads := 1; threads <= api.MaxThreads; threads++ {
		wantTold(t, Told{States: 1, Ends: 1}, slices.Repeat([]string{""}, threads)...)
		wantTold(t, Told{States: 1 << threads, Ends: 1}, slices.Repeat([]string{"fence"}, threads)...)
	}
	wantTold(t, Told{States: 15, Ends: 1}, "fence; fence", "fence; fence; fence; fence")
	wantTold(t, Told{States: 6}, "fence; fence", "label a; goto a")
	wantTold(t, Told{States: 9, Ends: 1}, "store 6 7 0", "store 7 7 0")
	wantTold(t, Told{States: 10, Ends: 2}, "store 6 6 0", "store 6 7 0")    // it is 1 at the end, or 2
	wantTold(t, Told{States: 5, Ends: 2}, "swap 0 6 0", "load 0 6 0; stop") // register 0 is 10 at the end, or 0
}

// P50: two states are two by a single thing of those that the document names, at the end: thread 0 goes one of two ways, as thread 1 was ahead of it or not, and makes all else the same again.
func TestWhatIsTwo(t *testing.T) {
	const ahead, behind = "load 0 6 2; zero 0 a; ", "; const 0 0; const 1 0"
	for name, c := range map[string]struct {
		text string
		ends int
	}{
		"nothing":                {ahead + "label a" + behind, 1},
		"a word":                 {ahead + "store 7 6 3; fence; label a" + behind, 2},
		"is it there":            {"alloc 1; " + ahead + "free 1; label a" + behind, 2},
		"given at all":           {ahead + "alloc 1; free 1; label a" + behind, 2},
		"how often":              {"alloc 1; free 1; " + ahead + "alloc 1; free 1; label a" + behind, 2},
		"of which Gen":           {"alloc 1; " + ahead + "free 1; alloc 1; label a" + behind, 2},
		"a register":             {ahead + "const 5 1; label a" + behind, 2},
		"a place":                {ahead + "const 0 0; stop; label a", 2},
		"a mark":                 {ahead + "mark 0; label a" + behind, 1},
		"a word put back":        {ahead + "store 7 6 3; store 7 1 3; fence; label a" + behind, 1},
		"a word of what is gone": {"alloc 1; " + ahead + "store 1 6 3; label a; free 1" + behind, 1},
	} {
		told, err := All(startOf(2), codesOf(t, c.text, "store 6 6 2"), api.MaxStates)
		if told.Fault || told.Ends != c.ends || err != nil {
			t.Error(name, told, err, "want", c.ends)
		}
	}
}

// P50: what waits makes two states of one, where all else is the same again: a value of it, or its cell. Thread 0 finds 0 or 1, as thread 1 was ahead of it or not.
func TestWhatWaitsIsTwo(t *testing.T) {
	for s, want := range map[string]Told{
		"load 0 6 2; store 7 0 3; const 0 0":            {States: 3 + 4 + 2*4 + 2*4, Ends: 2},
		"load 0 6 2; add 0 0 6; store 0 6 1; const 0 0": {States: 3 + 4 + 4 + 2*4 + 2*4, Ends: 2},
	} {
		wantTold(t, want, s, "store 6 6 2")
	}
}

// P50: two numbers side by side are no other two.
func TestKeyDiffers(t *testing.T) {
	known := map[string][2]int{}
	numbers := []int{0, 1, 2, 127, 128, 129, 255, 256, 16383, 16384, 16385, 1<<32 - 1}
	for _, first := range numbers {
		for _, second := range numbers {
			m, err := mach.New(mach.Start{Cells: 1, Regs: [][]int{{first, second}}}, codesOf(t, ""))
			if err != nil {
				t.Fatal(err)
			}
			k := key(m)
			if other, there := known[k]; there {
				t.Error(first, second, "have the key of", other)
			}
			known[k] = [2]int{first, second}
		}
	}
}
