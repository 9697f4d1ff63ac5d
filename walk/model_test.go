package walk

import (
	"slices"
	"strings"
	"testing"

	"quiescent/api"
)

const (
	modelThreads = 3
	modelCells   = 3
)

// state of a model: told in another way, as one value that is a key by itself.
type state struct {
	cells   [modelCells]cell
	threads [modelThreads]thread
}

type cell struct {
	given int
	there bool
	words [api.Words]int // zero where it is gone
}

type thread struct {
	registers [api.Registers]int
	at        int
	line      [api.MaxWaits]late
	length    int
}

// late is a store that waits for the cell of that name.
type late struct{ name, word, value int }

// beginning of a model, as startOf has it.
func beginning(threads int) state {
	var s state
	s.cells[0] = cell{1, true, [api.Words]int{10, 11}}
	s.cells[1] = cell{1, true, [api.Words]int{20}}
	for t := range threads {
		s.threads[t].registers[6], s.threads[t].registers[7] = 1, 2
	}
	return s
}

// cellOf a name, nil if it is not there.
func (s *state) cellOf(name int) *cell {
	for i := range s.cells {
		if c := &s.cells[i]; c.there && name == api.MaxCells*(c.given-1)+i+1 {
			return c
		}
	}
	return nil
}

// drain counts the fault, if it makes one.
func (s *state) drain(t int) int {
	h := &s.threads[t]
	first := h.line[0]
	h.line = [api.MaxWaits]late(append(h.line[1:], late{}))
	h.length--
	if c := s.cellOf(first.name); c != nil {
		c.words[first.word] = first.value
		return 0
	}
	return 1
}

func (s *state) fence(t int) int {
	faults := 0
	for s.threads[t].length > 0 {
		faults += s.drain(t)
	}
	return faults
}

func (s *state) alloc() int {
	for i := range s.cells {
		if c := &s.cells[i]; !c.there {
			*c = cell{given: c.given + 1, there: true}
			return api.MaxCells*(c.given-1) + i + 1
		}
	}
	return 0
}

func (s *state) done(t int, l []api.Instr) bool {
	at := s.threads[t].at
	return at == len(l) || l[at].Op == "stop"
}

// step of a thread that is not done; it counts the faults.
func (s *state) step(t int, l []api.Instr) int {
	h := &s.threads[t]
	x, r, faults := l[h.at], &h.registers, 0
	h.at++
	switch x.Op {
	case "const":
		r[x.A] = x.B
	case "add":
		r[x.A] = (r[x.B] + r[x.C]) % (1 << 32)
	case "need":
		if r[x.A] == 0 {
			faults = 1
		}
	case "goto", "zero", "same":
		if x.Op == "goto" || x.Op == "zero" && r[x.A] == 0 || x.Op == "same" && r[x.A] == r[x.B] {
			h.at = slices.Index(l, api.Instr{Op: "label", To: x.To})
		}
	case "alloc":
		r[x.A] = s.alloc()
	case "fence":
		faults = s.fence(t)
	case "force":
		for t := range s.threads {
			faults += s.fence(t)
		}
	case "load", "swap":
		faults, r[x.A] = s.touch(t, x, r[x.B], r[x.A])
	case "store", "free":
		faults, _ = s.touch(t, x, r[x.A], r[x.B])
	}
	return faults
}

// touch the cell of a name: it counts the faults, and tells what was there.
func (s *state) touch(t int, x api.Instr, name, value int) (faults, was int) {
	c, h := s.cellOf(name), &s.threads[t]
	if c == nil {
		return 1, 0
	}
	switch x.Op {
	case "load":
		was = c.words[x.C]
		for _, l := range h.line[:h.length] {
			if l.name == name && l.word == x.C {
				was = l.value
			}
		}
	case "store":
		if h.length == len(h.line) {
			faults = s.drain(t)
		}
		h.line[h.length] = late{name, x.C, value}
		h.length++
	case "swap":
		faults = s.fence(t)
		was, c.words[x.C] = c.words[x.C], value
	case "free":
		faults = s.fence(t)
		*c = cell{given: c.given}
	}
	return faults, was
}

// ended: all threads are done, and nothing waits.
func (s *state) ended(codes [][]api.Instr) bool {
	for t, l := range codes {
		if !s.done(t, l) || s.threads[t].length > 0 {
			return false
		}
	}
	return true
}

// after a number: the next state, and how many faults it makes; false where it is an error.
func (s state) after(n int, codes [][]api.Instr) (next state, faults int, ok bool) {
	if t := n; t < len(codes) {
		if s.done(t, codes[t]) {
			return s, 0, false
		}
		faults = s.step(t, codes[t])
		return s, faults, true
	}
	t := n - len(codes)
	if s.threads[t].length == 0 {
		return s, 0, false
	}
	faults = s.drain(t)
	return s, faults, true
}

// allStates of a model, one behind the other, each with its whole way.
func allStates(codes [][]api.Instr, most int) (Told, error) {
	l, ways := []state{beginning(len(codes))}, [][]int{nil}
	known := map[state]bool{l[0]: true}
	for i := 0; i < len(l); i++ {
		for n := range 2 * len(codes) {
			next, faults, ok := l[i].after(n, codes)
			if !ok || known[next] && faults == 0 {
				continue
			}
			way := append(slices.Clone(ways[i]), n)
			if faults > 0 {
				return Told{len(l), ends(l, codes), true, way}, nil
			}
			if len(l) == most {
				return Told{}, api.ErrBound
			}
			known[next] = true
			l, ways = append(l, next), append(ways, way)
		}
	}
	return Told{States: len(l), Ends: ends(l, codes)}, nil
}

func ends(l []state, codes [][]api.Instr) int {
	n := 0
	for _, s := range l {
		if s.ended(codes) {
			n++
		}
	}
	return n
}

// counter gives numbers below n by a short rule, so that each run is the same.
func counter(seed uint32) func(n int) int {
	return func(n int) int {
		seed = seed*1664525 + 1013904223
		return int(seed>>16) % n
	}
}

// some code, of which much makes no fault in most of the ways.
func some(next func(n int) int) string {
	lines := []string{
		"store 6 6 0", "store 6 7 0", "store 6 0 0", "store 7 6 0", "store 7 0 0", "store 6 7 1", "store 7 6 3", "store 7 0 3",
		"load 0 6 0", "load 0 6 0", "load 0 7 0", "load 1 6 1", "load 1 7 0", "swap 0 6 0", "swap 0 7 0",
		"const 0 0", "const 0 1", "const 1 0", "add 0 0 6", "add 1 0 0", "alloc 0", "alloc 1", "alloc 7", "alloc 6",
		"free 6", "free 7", "load 2 0 0", "store 1 6 0", "free 0", "fence", "force", "need 6", "need 0",
		"zero 0 z", "zero 1 z", "same 0 1 z", "zero 2 z", "same 0 7 z", "goto z", "stop",
	}
	var l []string
	for range 2 + next(6) {
		l = append(l, lines[next(len(lines))])
	}
	if next(3) > 0 {
		return strings.Join(slices.Insert(l, next(len(l)), "label z"), "; ")
	}
	// else what it does hangs on the others, at all
	return "load 0 7 3; zero 0 z; " + strings.Join(l, "; ") + "; load 0 3 0; label z"
}

// P50 to P52: of whatever codes, all is told as the model has it, and a way makes the fault that it tells of.
func TestAsTheModelHasIt(t *testing.T) {
	const most = 2000
	next := counter(1)
	count := map[string]int{}
	for round := range 3000 {
		texts := make([]string, 1+round%modelThreads)
		for i := range texts {
			texts[i] = some(next)
		}
		codes := codesOf(t, texts...)
		got, err := All(startOf(len(codes)), codes, most)
		want, wantErr := allStates(codes, most)
		if !sameTold(got, want) || err != wantErr {
			t.Fatalf("%q: %v, %v, want %v, %v", texts, got, err, want, wantErr)
		}
		if err == nil {
			wantReplay(t, startOf(len(codes)), codes, got)
		}
		count[kindOf(got, err)]++
	}
	t.Log(count)
	for _, kind := range []string{"more", "fault at once", "fault", "fault behind an end", "no end", "one end", "ends"} {
		if count[kind] < 10 {
			t.Error(kind, "came too seldom:", count)
		}
	}
}

func kindOf(told Told, err error) string {
	switch {
	case err != nil:
		return "more"
	case told.Fault && told.Ends > 0:
		return "fault behind an end"
	case told.Fault && len(told.Way) < 3:
		return "fault at once"
	case told.Fault:
		return "fault"
	case told.Ends == 0:
		return "no end"
	case told.Ends == 1:
		return "one end"
	}
	return "ends"
}
