package spin

import (
	"slices"
	"strings"
	"testing"

	"quiescent/api"
	"quiescent/code"
	"quiescent/mach"
	"quiescent/walk"
)

// counter gives numbers below n by a short rule, so that each run is the same.
func counter(seed uint32) func(n int) int {
	return func(n int) int {
		seed = seed*1664525 + 1013904223
		return int(seed>>16) % n
	}
}

// read a text that has "; " between its instructions.
func read(t *testing.T, s string) []api.Instr {
	t.Helper()
	l, err := code.Read(strings.ReplaceAll(s, "; ", "\n"))
	if err != nil {
		t.Fatal(s, err)
	}
	return l
}

// startOf threads: a cell is there, which registers 6 and 7 of each thread name. Its word 0 is the lock.
func startOf(threads int) mach.Start {
	return mach.Start{Cells: 1, Init: [][]int{{}}, Regs: slices.Repeat([][]int{{0, 0, 0, 0, 0, 0, 1, 1}}, threads)}
}

// locked takes the lock by that register, does what is between, and gives it back; as often as told.
func locked(t *testing.T, times, cell, tmp int, between []api.Instr) []api.Instr {
	t.Helper()
	var l []api.Instr
	for n := range times {
		p := string(rune('a' + n))
		named, err := Named(p, between)
		if err != nil {
			t.Fatal(err)
		}
		l = slices.Concat(l, must(t, Take, p+"t", cell, 0, tmp), named, must(t, Give, p+"g", cell, 0, tmp))
	}
	return l
}

// only one: word 1 is 1 while somebody is in there, and a fault comes where it is found so.
const only = "load 4 7 1; zero 4 b; const 4 0; need 4; label b; store 7 7 1; const 4 0; store 7 4 1"

// lost: word 2 is one more each time, but where another one is between.
const lost = "load 4 7 2; add 4 4 7; store 7 4 2"

// machine of threads that each take it so often, by registers of their own.
func machine(t *testing.T, between string, times ...int) *mach.Machine {
	t.Helper()
	m, err := mach.New(startOf(len(times)), codesOf(t, between, times...))
	if err != nil {
		t.Fatal(err)
	}
	return m
}

func codesOf(t *testing.T, between string, times ...int) [][]api.Instr {
	t.Helper()
	var codes [][]api.Instr
	for n, each := range times {
		codes = append(codes, locked(t, each, 7-n%2, n%3, read(t, between)))
	}
	return codes
}

func done(m *mach.Machine, threads int) bool {
	for n := range threads {
		if !m.Done(n) {
			return false
		}
	}
	return true
}

// P62: in no way two have it at once, as far as all ways can be gone through; what the last one did is seen by the next one.
func TestOneInAllWays(t *testing.T) {
	for _, times := range [][]int{{2}, {1, 1}, {1, 2}, {2, 2}, {1, 1, 1}, {2, 1, 1}, {2, 2, 2}} {
		for _, between := range []string{only, lost} {
			told, err := walk.All(startOf(len(times)), codesOf(t, between, times...), api.MaxStates)
			if told.Fault || told.Ends == 0 || err != nil {
				t.Error(times, between, told, err)
			}
		}
	}
}

// P62: what is between is done as often as it is asked for, by whoever comes next, with numbers in any order.
func TestNoneIsLost(t *testing.T) {
	for seed := range uint32(300) {
		next := counter(seed)
		times := make([]int, 1+next(api.MaxThreads))
		sum := 0
		for i := range times {
			times[i] = 1 + next(4)
			sum += times[i]
		}
		m := machine(t, lost, times...)
		for range 5000 {
			m.Run([]int{next(2 * len(times))})
		}
		for i := 0; i < api.MaxSteps && !done(m, len(times)); i++ {
			m.Run([]int{i})
		}
		if v, _ := m.Peek(api.Ref{}, 2); v != sum || !done(m, len(times)) || m.Faults() > 0 {
			t.Error(seed, times, v, "want", sum, m.Faults())
		}
	}
}

// longCode of as many instructions: stores ahead of a last one that counts, so that much waits.
func longCode(count int) string {
	l := slices.Repeat([]string{"store 7 7 3"}, count-3)
	return strings.Join(append(l, strings.Split(lost, "; ")...), "; ")
}

// P62: all is done behind 5000 numbers that go round, from whatever number on.
func TestRound(t *testing.T) {
	for _, times := range [][]int{{2}, {2, 2}, {2, 2, 2}} {
		for from := range 2 * len(times) {
			for _, count := range []int{3, 4, 7, 12, 20} {
				m := machine(t, longCode(count), times...)
				var script []int
				for i := range 5000 {
					script = append(script, from+i)
				}
				m.Run(script)
				if v, _ := m.Peek(api.Ref{}, 2); v != 2*len(times) || !done(m, len(times)) {
					t.Error(times, from, count, v)
				}
			}
		}
	}
}

// P62: whoever tries has it, once the others have given it back, whatever was ahead: nobody needs to drain.
func TestGivenBack(t *testing.T) {
	for seed := range uint32(500) {
		next := counter(seed)
		m := machine(t, lost, 2, 2)
		for range next(150) {
			m.Run([]int{next(4)})
		}
		first := next(2)
		for n, must := range []bool{false, true, true} { // the first one is done, or the other one has it
			for range 200 {
				m.Step((first + n) % 2)
			}
			if must && !m.Done((first+n)%2) {
				t.Error(seed, first, n)
			}
		}
	}
}

// P62: what is given back is taken, and what was done there is seen, where the one who did it never drains.
func TestSeenWithoutDrain(t *testing.T) {
	for _, count := range []int{3, 4, 7, 12, 20} {
		m := machine(t, longCode(count), 1, 1, 1)
		for n := range 3 {
			for range 50 {
				m.Step(n)
			}
			if v, _ := m.Reg(n, 4); v != n+1 || !m.Done(n) {
				t.Error(count, n, v)
			}
		}
	}
}

// P62: who tries while another one has it, does not get it, however long it tries.
func TestTakenOnce(t *testing.T) {
	m := machine(t, "mark 7", 1, 1)
	for len(m.Marks()) == 0 {
		m.Step(0)
	}
	for i := range 1000 {
		m.Run([]int{1 + i%3})
	}
	if len(m.Marks()) != 1 || m.Done(1) {
		t.Error(m.Marks())
	}
	for range 50 {
		m.Step(0)
	}
	for range 50 {
		m.Step(1)
	}
	if len(m.Marks()) != 2 || !done(m, 2) {
		t.Error(m.Marks())
	}
}
