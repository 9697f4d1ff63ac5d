package walk

import (
	"math"
	"slices"
	"sync"
	"testing"

	"quiescent/api"
	"quiescent/mach"
)

// firstScript of so many numbers that makes a fault, of all there are, in order; nil if none does.
func firstScript(m *mach.Machine, numbers, length int) []int {
	if length == 0 || m.Faults() > 0 {
		return nil
	}
	for n := range numbers {
		next := m.Copy()
		next.Run([]int{n})
		if length == 1 && next.Faults() > 0 {
			return []int{n}
		}
		if rest := firstScript(next, numbers, length-1); rest != nil {
			return slices.Insert(rest, 0, n)
		}
	}
	return nil
}

// P52: of all scripts that there are, none that is shorter makes a fault; and of those as long, the way is the first one.
func TestNoShorterWay(t *testing.T) {
	const longest = 5
	next := counter(7)
	lengths := map[int]int{}
	for range 400 {
		codes := codesOf(t, some(next), some(next))
		told, err := All(startOf(2), codes, api.MaxStates)
		if err != nil || len(told.Way) > longest {
			continue
		}
		m, err := mach.New(startOf(2), codes)
		if err != nil {
			t.Fatal(err)
		}
		shorter := longest
		if told.Fault {
			shorter = len(told.Way) - 1
			if first := firstScript(m, 4, len(told.Way)); !slices.Equal(first, told.Way) {
				t.Fatal(told, first)
			}
		}
		for length := range shorter + 1 {
			if script := firstScript(m, 4, length); script != nil {
				t.Fatal(told, script)
			}
		}
		lengths[len(told.Way)]++
	}
	for length := range longest + 1 {
		if lengths[length] < 5 {
			t.Error("ways of length", length, "came too seldom:", lengths)
		}
	}
}

// P2: the same is told however often, and by however many side by side.
func TestTheSameAgain(t *testing.T) {
	next := counter(3)
	for range 20 {
		codes := codesOf(t, some(next), some(next))
		want, wantErr := All(startOf(2), codes, 3000)
		var group sync.WaitGroup
		for range 8 {
			group.Go(func() {
				if got, err := All(startOf(2), codes, 3000); !sameTold(got, want) || err != wantErr {
					t.Error(got, err, "want", want, wantErr)
				}
			})
		}
		group.Wait()
	}
}

// P3, P4: what is handed over stays, and what lies behind its length is not read; a way is new memory.
func TestArgumentsStay(t *testing.T) {
	start := startOf(2)
	codes := codesOf(t, "fence; store 6 7 0; fence", "load 0 6 0; need 6; need 1")
	long := codes[0]
	codes[0] = long[:2]
	longInit := start.Init
	start.Init = longInit[:1]
	start.Init[0] = append(start.Init[0], -1)[:2]
	want, err := All(start, codes, 100)
	if !want.Fault || len(want.Way) != 3 || err != nil {
		t.Fatal(want, err)
	}
	way := slices.Clone(want.Way)
	want.Way[0] = 99
	again, err := All(start, codes, 100)
	if !slices.Equal(again.Way, way) || err != nil {
		t.Error(again, err)
	}
	if !slices.Equal(long, codesOf(t, "fence; store 6 7 0; fence")[0]) || !slices.Equal(longInit[1], []int{20}) || !slices.Equal(start.Init[0][:3], []int{10, 11, -1}) {
		t.Error(long, longInit)
	}
}

// P1: greatest and least numbers, and lists that are nil or empty.
func TestStrangeArguments(t *testing.T) {
	for _, n := range []int{math.MinInt, -1, math.MaxInt} {
		if _, err := All(mach.Start{Cells: n}, [][]api.Instr{nil}, 1); err != api.ErrBound {
			t.Error(n, err)
		}
		if _, err := All(mach.Start{Cells: 1, Init: [][]int{{n}}}, [][]api.Instr{nil}, 1); err != api.ErrBound {
			t.Error(n, err)
		}
	}
	for _, s := range []mach.Start{{Cells: 1}, {Cells: api.MaxCells, Init: [][]int{}, Regs: [][]int{}}, {Cells: 1, Init: [][]int{nil}, Regs: [][]int{nil, {}}}} {
		for _, codes := range [][][]api.Instr{{nil, {}}, make([][]api.Instr, api.MaxThreads)} {
			if told, err := All(s, codes, 1); !sameTold(told, Told{States: 1, Ends: 1}) || err != nil {
				t.Error(s, told, err)
			}
		}
	}
}
