package mach

import (
	"fmt"
	"slices"
	"strings"
	"testing"

	"quiescent/api"
)

// counter gives numbers below n by a short rule, so that each run is the same.
func counter(seed uint32) func(n int) int {
	return func(n int) int {
		seed = seed*1664525 + 1013904223
		return int(seed>>16) % n
	}
}

// numbers of a script, of which few are drains: so that lines become full.
func numbers(next func(n int) int, threads, length int) []int {
	l := make([]int, length)
	for i := range l {
		l[i] = next(threads) + 2*threads*(next(9)-4)
		if next(16) == 0 {
			l[i] += threads
		}
	}
	return l
}

// some code for threads: it goes around, and registers 4 to 7 name cells, mostly.
func some(next func(n int) int, threads int) []string {
	var texts []string
	for range threads {
		l := []string{"label a"}
		for i := range 10 + next(30) {
			if i%9 == 8 {
				l = append(l, fmt.Sprintf("label b.%d", i/9))
			}
			l = append(l, line(next, i/9))
		}
		for i := range 5 { // that all which are gone to are set
			l = append(l, fmt.Sprintf("label c.%d", i))
		}
		texts = append(texts, strings.Join(append(l, "goto a"), "; "))
	}
	return texts
}

// line of code: stores, mostly, and what frees a cell seldom, so that some of them find it gone.
func line(next func(n int) int, part int) string {
	low, cell, any, w := next(4), 4+next(4), next(8), next(api.Words)
	if next(8) == 0 { // at times no name of a cell
		cell = low
	}
	switch next(30) {
	case 0:
		return fmt.Sprintf("const %d %d", low, next(3))
	case 1:
		return fmt.Sprintf("const %d %d", cell, 1+next(3)+64*(next(5)/3))
	case 2:
		return fmt.Sprintf("move %d %d", low, any)
	case 3, 4:
		return fmt.Sprintf("%s %d %d %d", []string{"add", "sub", "and", "xor"}[next(4)], low, any, next(8))
	case 5, 6:
		return fmt.Sprintf("load %d %d %d", low, cell, w)
	case 7:
		return fmt.Sprintf("swap %d %d %d", low, cell, w)
	case 8:
		return fmt.Sprintf("cas %d %d %d", cell, low, w)
	case 9:
		return fmt.Sprintf("alloc %d", cell)
	case 10:
		return fmt.Sprintf("free %d", cell)
	case 11:
		return fmt.Sprintf("zero %d c.%d", low, next(5))
	case 12:
		return fmt.Sprintf("same %d %d c.%d", low, any, part)
	case 13:
		return fmt.Sprintf("mark %d", any)
	case 14:
		return fmt.Sprintf("need %d", any)
	case 15:
		return []string{"fence", "force", "goto c.0", "stop"}[next(4)]
	}
	return fmt.Sprintf("store %d %d %d", cell, any, w)
}

// late is a store that waits, in a book.
type late struct {
	r    api.Ref
	w, v int
}

// book is what a machine ought to be: told in another way, by maps and by lists that grow.
type book struct {
	codes [][]api.Instr
	regs  [][]int
	at    []int
	words map[api.Ref][]int // of cells that are there
	gens  map[int]int
	waits [][]late
	marks []Mark
	fault map[string]int // how many of each kind
}

const bookCells = 4

// bookOf a machine that made made.
func bookOf(codes [][]api.Instr) *book {
	b := &book{codes: codes, words: map[api.Ref][]int{{}: {10, 11, 0, 0}, {Cell: 1}: {20, 0, 0, 0}}, gens: map[int]int{0: 1, 1: 1}, fault: map[string]int{}}
	for range codes {
		b.regs = append(b.regs, []int{0, 0, 0, 0, 0, 0, 1, 2})
		b.at = append(b.at, 0)
		b.waits = append(b.waits, nil)
	}
	return b
}

func (b *book) drain(t int, kind string) {
	s := b.waits[t][0]
	b.waits[t] = b.waits[t][1:]
	if words, there := b.words[s.r]; there {
		words[s.w] = s.v
		return
	}
	b.fault["drain "+kind]++
}

func (b *book) fence(t int, kind string) {
	for len(b.waits[t]) > 0 {
		b.drain(t, kind)
	}
}

func (b *book) done(t int) bool {
	return b.at[t] == len(b.codes[t]) || b.codes[t][b.at[t]].Op == "stop"
}

func (b *book) setAt(t int, label string) {
	b.at[t] = slices.Index(b.codes[t], api.Instr{Op: "label", To: label})
}

// cell that a word names, nil if it is not there.
func (b *book) cell(n int) (api.Ref, []int) {
	r := api.Ref{Cell: (n + 63) % 64, Gen: (n - 1) / 64}
	if n == 0 {
		return r, nil
	}
	return r, b.words[r]
}

func (b *book) alloc() int {
	for c := range bookCells {
		if _, there := b.words[api.Ref{Cell: c, Gen: b.gens[c] - 1}]; !there {
			b.words[api.Ref{Cell: c, Gen: b.gens[c]}] = make([]int, 4)
			b.gens[c]++
			return 64*(b.gens[c]-1) + c + 1
		}
	}
	return 0
}

// step of a thread that is not done.
func (b *book) step(t int) {
	x, r := b.codes[t][b.at[t]], b.regs[t]
	b.at[t]++
	switch x.Op {
	case "const":
		r[x.A] = x.B
	case "move":
		r[x.A] = r[x.B]
	case "add":
		r[x.A] = (r[x.B] + r[x.C]) % (1 << 32)
	case "sub":
		r[x.A] = (r[x.B] - r[x.C] + 1<<32) % (1 << 32)
	case "and":
		r[x.A] = r[x.B] & r[x.C]
	case "xor":
		r[x.A] = r[x.B] ^ r[x.C]
	case "zero", "same", "goto":
		if x.Op == "goto" || x.Op == "zero" && r[x.A] == 0 || x.Op == "same" && r[x.A] == r[x.B] {
			b.setAt(t, x.To)
		}
	case "mark":
		if len(b.marks) < 500 {
			b.marks = append(b.marks, Mark{t, r[x.A]})
		}
	case "need":
		if r[x.A] == 0 {
			b.fault["need"]++
		}
	case "alloc":
		r[x.A] = b.alloc()
	case "fence":
		b.fence(t, "fence")
	case "force":
		for t := range b.codes {
			b.fence(t, "force")
		}
	case "load", "store", "swap", "cas", "free":
		b.touch(t, x, r)
	}
}

// touch a cell by an instruction that names one.
func (b *book) touch(t int, x api.Instr, r []int) {
	name, answer := x.A, x.A // where the name is, and where the answer comes
	switch x.Op {
	case "load", "swap":
		name = x.B
	case "cas":
		answer = x.B
	}
	cell, words := b.cell(r[name])
	if words == nil {
		b.fault[x.Op]++
		if len(b.waits[t]) == 8 {
			b.fault[x.Op+" full"]++
		}
		if x.Op != "store" && x.Op != "free" {
			r[answer] = 0
		}
		return
	}
	switch x.Op {
	case "load":
		v := words[x.C]
		for _, s := range b.waits[t] {
			if s.r == cell && s.w == x.C {
				v = s.v
			}
		}
		r[x.A] = v
	case "store":
		if len(b.waits[t]) == 8 {
			b.drain(t, "store")
		}
		b.waits[t] = append(slices.Clone(b.waits[t]), late{cell, x.C, r[x.B]})
	case "swap":
		b.fence(t, "swap")
		words[x.C], r[x.A] = r[x.A], words[x.C]
	case "cas":
		b.fence(t, "cas")
		was := words[x.C]
		if was == r[x.B] {
			words[x.C] = r[x.B+1]
		}
		r[x.B] = was
	case "free":
		b.fence(t, "free")
		delete(b.words, cell)
	}
}

// run one number, and tell whether it had no error.
func (b *book) run(n int) bool {
	threads := len(b.codes)
	n = (n + 1000*threads) % (2 * threads)
	if n < threads && !b.done(n) {
		b.step(n)
		return true
	}
	if n >= threads && len(b.waits[n-threads]) > 0 {
		b.drain(n-threads, "alone")
		return true
	}
	return false
}

func (b *book) faults() int {
	n := 0
	for kind, times := range b.fault {
		if !strings.HasSuffix(kind, " full") { // these are counted twice
			n += times
		}
	}
	return n
}

// hold asks the machine for all that the book knows.
func (b *book) hold(t *testing.T, m *Machine) {
	t.Helper()
	for thread, registers := range b.regs {
		for r, want := range registers {
			if v, err := m.Reg(thread, r); v != want || err != nil {
				t.Fatal("Reg:", thread, r, v, err, want)
			}
		}
		if m.Done(thread) != b.done(thread) || m.Waiting(thread) != len(b.waits[thread]) {
			t.Fatal("Done, Waiting:", thread, m.Done(thread), m.Waiting(thread), len(b.waits[thread]))
		}
	}
	for c, gen := range b.gens {
		for _, r := range []api.Ref{{Cell: c, Gen: gen - 1}, {Cell: c, Gen: gen - 2}, {Cell: c, Gen: gen}} {
			words, there := b.words[r]
			for w := range api.Words {
				v, err := m.Peek(r, w)
				if (err == nil) != there || there && v != words[w] {
					t.Fatal("Peek:", r, w, v, err, words)
				}
			}
		}
	}
	if m.Faults() != b.faults() || m.Cells() != len(b.words) || !slices.Equal(m.Marks(), b.marks) {
		t.Fatal("Faults, Cells, Marks:", m.Faults(), b.fault, m.Cells(), len(b.words), len(b.marks))
	}
}

// P41 to P44: whatever code, by whatever script, all is as the book has it.
func TestAsTheBookHasIt(t *testing.T) {
	next := counter(1)
	fault := map[string]int{}
	for round := range 4000 {
		threads := 1 + round%4
		texts := some(next, threads)
		m, b := made(t, texts...), bookOf(read(t, texts...))
		again := m.Copy()
		script := numbers(next, threads, 90)
		done := 0
		for _, n := range script {
			want := 0
			if b.run(n) {
				want = 1
			}
			if got := m.Run([]int{n}); got != want {
				t.Fatal(round, n, got, want)
			}
			done += want
			b.hold(t, m)
		}
		if n := again.Run(script); n != done || !same(again, m) {
			t.Fatal("in one run it is another one:", round, n, done)
		}
		for kind, times := range b.fault {
			fault[kind] += times
		}
	}
	for _, kind := range []string{"need", "load", "store", "swap", "cas", "free", "store full", "drain alone", "drain store", "drain swap", "drain cas", "drain free", "drain fence", "drain force"} {
		if fault[kind] < 5 {
			t.Error(kind, "came too seldom:", fault)
		}
	}
}
