package walk

import (
	"testing"

	"quiescent/api"
	"quiescent/mach"
)

// P50: See tells what All tells, and shows each state once: as many as there are, the ends as such.
func TestSee(t *testing.T) {
	next := counter(2)
	count := map[string]int{}
	for round := range 400 {
		texts := make([]string, 1+round%3)
		for i := range texts {
			texts[i] = some(next)
		}
		codes := codesOf(t, texts...)
		states, ends, shown := 0, 0, map[string]int{}
		got, err := See(startOf(len(codes)), codes, 300, func(m *mach.Machine, end bool) {
			if end != ended(m, len(codes)) {
				t.Error(texts, end)
			}
			if end {
				ends++
			}
			states++
			shown[key(m)]++
		})
		want, wantErr := All(startOf(len(codes)), codes, 300)
		if !sameTold(got, want) || err != wantErr {
			t.Fatalf("%q: %v, %v, want %v, %v", texts, got, err, want, wantErr)
		}
		if len(shown) != states || err == nil && (states != got.States || ends != got.Ends) || err != nil && states != 300 {
			t.Errorf("%q: %v: shown %d, %d of them differ, ends %d", texts, got, states, len(shown), ends)
		}
		count[kindOf(got, err)]++
	}
	if count["more"] < 5 || count["ends"] < 5 || count["fault"] < 5 {
		t.Error(count)
	}
}

// P4: what is shown is the closure's own: whatever is done to it, all goes on as it was.
func TestSeeItsOwn(t *testing.T) {
	codes := codesOf(t, "store 6 7 0; load 0 7 0", "store 7 6 0; load 0 6 0; alloc 1")
	want, _ := All(startOf(2), codes, api.MaxStates)
	var kept []*mach.Machine
	told, err := See(startOf(2), codes, api.MaxStates, func(m *mach.Machine, end bool) {
		m.Run([]int{0, 1, 2, 3, 0, 1})
		m.Alloc(0)
		m.Store(1, api.Ref{Cell: 1}, 3, 9)
		for _, k := range kept {
			k.Run([]int{0, 1, 2, 3})
		}
		kept = append(kept, m)
	})
	if !sameTold(told, want) || err != nil {
		t.Error(told, want, err)
	}
}

// P1: nothing is shown to nobody, or with an error of the machine's.
func TestSeeNothing(t *testing.T) {
	if told, err := See(startOf(1), codesOf(t, "fence"), 10, nil); told.States != 2 || err != nil {
		t.Error(told, err)
	}
	shown := func(*mach.Machine, bool) { t.Error("shown") }
	for _, most := range []int{-1, 0, api.MaxStates + 1} {
		if told, err := See(startOf(1), codesOf(t, "fence"), most, shown); !sameTold(told, Told{}) || err != api.ErrBound {
			t.Error(most, told, err)
		}
	}
	if told, err := See(startOf(0), nil, 10, shown); !sameTold(told, Told{}) || err != api.ErrBound {
		t.Error(told, err)
	}
}
