package mach

import (
	"math"
	"slices"
	"sync"
	"testing"

	"quiescent/api"
)

// P43: numbers are taken modulo twice the threads: a Step of each thread, then a Drain of each.
func TestRunNumbers(t *testing.T) {
	const code = "label a; store 6 6 0; add 0 0 6; goto a"
	for _, threads := range []int{1, 2, 3, api.MaxThreads} {
		texts := slices.Repeat([]string{code}, threads)
		for n := -5 * threads; n < 5*threads; n++ {
			want := n + 6*threads
			wantTurn(t, texts, n, want%(2*threads))
		}
	}
	three := slices.Repeat([]string{code}, 3)
	wantTurn(t, three, math.MaxInt, 1) // 2^63 is 2 modulo 6, below 0 it is 4
	wantTurn(t, three, math.MinInt, 4)
	wantTurn(t, three[:2], math.MaxInt, 3)
	wantTurn(t, three[:2], math.MinInt, 0)
}

// wantTurn holds a script of one number against the call that it asks for.
func wantTurn(t *testing.T, texts []string, n, turn int) {
	t.Helper()
	m := made(t, texts...)
	for thread := range texts {
		steps(t, m, thread, 2)
	}
	c := m.Copy()
	threads := len(texts)
	if turn < threads {
		steps(t, c, turn, 1)
	} else if err := c.Drain(turn - threads); err != nil {
		t.Fatal(err)
	}
	if done := m.Run([]int{n}); done != 1 {
		t.Error(n, done)
	}
	if !same(m, c) {
		t.Error("number", n, "of", threads, "threads is not", turn)
	}
}

// same tells if two machines are so, to what is not exported.
func same(a, b *Machine) bool {
	return a.below == b.below && a.threads == b.threads && a.faults == b.faults && slices.Equal(a.marks, b.marks)
}

// P43: what has an error is passed over, and not counted; a fault is none.
func TestRunErrors(t *testing.T) {
	m := made(t, "need 0; store 6 7 0", "stop")
	for i, c := range []struct {
		script []int
		want   int
	}{
		{nil, 0}, {[]int{}, 0}, {[]int{1, 1, 3, 2}, 0}, {[]int{2, 0, 1, 2, 0, 3, 2, 2, 0, -4}, 3}, {[]int{0, 1, 2, 3}, 0},
	} {
		if n := m.Run(c.script); n != c.want {
			t.Error(i, n)
		}
	}
	wantFaults(t, m, 1)
	wantWord(t, m, 0, 0, 2)
}

// P43: at most MaxSteps numbers; what is behind them is passed over.
func TestRunLong(t *testing.T) {
	m := made(t, "label a; add 0 0 6; goto a", "const 0 1")
	for _, c := range []struct{ numbers, want int }{{api.MaxSteps - 1, api.MaxSteps - 1}, {api.MaxSteps, api.MaxSteps}, {api.MaxSteps + 1, api.MaxSteps}, {5 * api.MaxSteps, api.MaxSteps}} {
		if n := m.Run(make([]int, c.numbers)); n != c.want {
			t.Error(c.numbers, n)
		}
	}
	script := slices.Repeat([]int{2}, api.MaxSteps+1) // none of these has a store, and they are numbers all the same
	script[api.MaxSteps] = 1
	if n := m.Run(script); n != 0 || m.Done(1) {
		t.Error(n)
	}
	if n := m.Run(script[1:]); n != 1 || !m.Done(1) {
		t.Error(n)
	}
}

// P4: a script stays, also behind its length.
func TestRunScriptStays(t *testing.T) {
	script := []int{0, -3, 7, 1, 0}
	was := slices.Clone(script)
	m := made(t, "const 0 1; const 0 2; const 0 3", "stop")
	if n := m.Run(script[:1]); n != 1 || !slices.Equal(script, was) {
		t.Error(n, script)
	}
	wantReg(t, m, 0, 0, 1)
}

// P43: a copy is as the machine, and goes on by itself.
func TestCopy(t *testing.T) {
	m := made(t, "mark 6; store 6 7 0; need 0; mark 7; swap 0 6 1; alloc 1; mark 1", "mark 0; load 0 6 0; mark 0")
	if n := m.Run([]int{0, 0, 1}); n != 3 {
		t.Fatal(n)
	}
	c, ahead := m.Copy(), m.Copy()
	if !same(c, m) {
		t.Fatal("a copy that is not the same")
	}
	m.Run([]int{0, 0, 0, 0, 0})
	if !same(c, ahead) {
		t.Error("a step of the machine shows in its copy")
	}
	was := m.Copy()
	c.Run([]int{2, 1, 1})
	if !same(m, was) {
		t.Error("a step of the copy shows in the machine")
	}
	wantMarks(t, m, Mark{0, 1}, Mark{1, 0}, Mark{0, 2}, Mark{0, 3})
	wantMarks(t, c, Mark{0, 1}, Mark{1, 0}, Mark{1, 2})
	ahead.Run([]int{0, 0, 0, 0, 0})
	if !same(ahead, m) {
		t.Error("a copy goes on in another way")
	}
}

// P43: marks of a copy come behind its own ones alone, however many there were.
func TestCopyMarks(t *testing.T) {
	m := made(t, "label a; mark 6; goto a", "label a; mark 7; goto a")
	for n := range 20 {
		c := m.Copy()
		c.Run([]int{1, 1})
		m.Run([]int{0, 0})
		if a, b := m.Marks(), c.Marks(); len(a) != n+1 || len(b) != n+1 || a[n] != (Mark{0, 1}) || b[n] != (Mark{1, 2}) {
			t.Fatal(n, a, b)
		}
		m.Run([]int{0})
	}
}

// P2, P44: the same script makes the same, however many copies work side by side.
func TestSideBySide(t *testing.T) {
	next := counter(5)
	texts := some(next, 3)
	first := made(t, texts...)
	script := numbers(next, 3, 2000)
	var l [8]*Machine
	var group sync.WaitGroup
	for i := range l {
		l[i] = first.Copy()
		group.Go(func() { l[i].Run(script) })
	}
	group.Wait()
	n := first.Run(script)
	for i, m := range l {
		if !same(m, first) {
			t.Error("copy", i, "is not the same")
		}
	}
	if n == 0 {
		t.Error("nothing was done")
	}
}
