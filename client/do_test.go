package client

import (
	"slices"
	"strconv"
	"strings"
	"testing"

	"quiescent/api"
	"quiescent/arena"
	"quiescent/mach"
)

// published tells the name of what is published.
func published(t *testing.T, m *mach.Machine) int {
	t.Helper()
	place, _ := m.Reg(0, 5)
	return word(t, m, place, 0)
}

// word of the cell of that name.
func word(t *testing.T, m *mach.Machine, name, w int) int {
	t.Helper()
	r, err := arena.Ref(name)
	if err != nil {
		t.Fatal(name, err)
	}
	v, err := m.Peek(r, w)
	if err != nil {
		t.Fatal(r, err)
	}
	return v
}

// P80: what one thread does by itself: what it notes, and how many cells more there are behind it.
func TestOneThread(t *testing.T) {
	for _, c := range []struct {
		words string
		notes []int
		more  int
	}{
		{"", nil, 0},
		{"rest wait flush", nil, 0},
		{"enter leave", nil, 0},
		{"enter read leave", []int{1}, 0},
		{"enter enter read leave read read leave", []int{1, 1, 1}, 0},
		{"put5", nil, 1},
		{"put5 drop", nil, 0},
		{"put5 wait", nil, 1},
		{"put5 flush", nil, 1}, // what is retired is not on the list
		{"put5 later", nil, 1},
		{"put5 later wait", nil, 1},
		{"put5 later flush", nil, 0},
		{"put5 flush drop", nil, 0},
		{"put1000 wait drop enter read leave put1 wait drop enter read leave", []int{1000, 1}, 0},
		{"put5 wait enter drop read leave", []int{5}, 0},
		{"put5 later enter read leave put6 later enter read leave put7 later enter read leave flush enter read leave", []int{5, 6, 7, 7}, 0},
		{"put5 later put6 later put7 wait drop", nil, 2},
		{"put5 later put6 later put7 later flush flush put8 later flush enter read leave", []int{8}, 0},
		{"put5 later put6 flush drop put7", nil, 1},
		{"flush put5 later flush put6 later put7", nil, 2},
	} {
		for _, f := range flavours() {
			m := machine(t, f, c.words)
			was := m.Cells()
			if !alone(m, 0) || m.Faults() > 0 || !slices.Equal(numbers(m, 0), c.notes) || m.Cells() != was+c.more {
				t.Error(f, c.words, m.Faults(), m.Marks(), m.Cells()-was)
			}
		}
	}
}

// P80: what is published is the new cell, and its word 0 is the number, whenever others find it.
func TestPut(t *testing.T) {
	for _, f := range flavours() {
		for _, n := range []int{1, 2, 999, 1000} {
			m := machine(t, f, "put"+strconv.Itoa(n))
			old := published(t, m)
			for range 3000 {
				m.Step(0)
				if now := published(t, m); now != old && word(t, m, now, 0) != n {
					t.Fatal(f, n, "it is published ahead of its number")
				}
			}
			if now := published(t, m); now == old || word(t, m, now, 0) != n || word(t, m, old, 0) != 1 {
				t.Error(f, n, now)
			}
		}
	}
}

// P80: the list is linked by word 1 of each cell that is on it.
func TestList(t *testing.T) {
	for _, f := range flavours() {
		m := machine(t, f, "put5 later put6 later put7 later put8")
		names := map[int]int{word(t, m, published(t, m), 0): published(t, m)} // by what their words 0 are
		for !m.Done(0) {
			m.Step(0)
			names[word(t, m, published(t, m), 0)] = published(t, m)
		}
		m.Run(slices.Repeat([]int{1}, api.MaxWaits))
		var links []int
		for _, n := range []int{1, 5, 6} {
			links = append(links, word(t, m, names[n], 1))
			if word(t, m, names[n], 0) != n {
				t.Error(f, "a reader would find no", n)
			}
		}
		if up, down := []int{0, names[1], names[5]}, []int{names[5], names[6], 0}; !slices.Equal(links, up) && !slices.Equal(links, down) {
			t.Error(f, links, names)
		}
	}
}

// P80: drop frees what was retired, and nothing else.
func TestDrop(t *testing.T) {
	for _, f := range flavours() {
		m := machine(t, f, "put5 later put6 wait drop put7")
		for word(t, m, published(t, m), 0) != 5 {
			m.Step(0)
		}
		five := published(t, m)
		if !alone(m, 0) {
			t.Fatal(f, "not done")
		}
		r, _ := arena.Ref(five)
		if _, err := m.Peek(r, 0); err != api.ErrStale {
			t.Error(f, "what was retired last is there still:", err)
		}
	}
}

// P80: what is read must not be 0; then it is noted.
func TestNeed(t *testing.T) {
	for _, f := range flavours() {
		s, codes := build(t, f, clientOf("enter read read leave"))
		s.Init[s.Init[cell(t, s, 0, 5).Cell][0]-1][0] = 0
		m := machineOf(t, s, codes)
		for !m.Done(0) {
			m.Step(0)
			if m.Faults() < len(m.Marks()) {
				t.Fatal(f, "it is noted ahead of its need")
			}
		}
		if m.Faults() != 2 || !slices.Equal(numbers(m, 0), []int{0, 0}) {
			t.Error(f, m.Faults(), m.Marks())
		}
	}
}

// P80: if there is no cell, nothing is published, and nothing is retired: so nothing is freed, and nothing goes onto the list.
func TestNoCell(t *testing.T) {
	for _, c := range []struct {
		words string
		room  int // cells that are free at the beginning
		notes []int
		more  int
	}{
		{"put5 enter read leave", 0, []int{1}, 0},
		{"put5 wait drop enter read leave", 0, []int{1}, 0},
		{"put5 later put6 later enter read leave flush flush", 0, []int{1}, 0},
		{"put5 wait drop put6 wait drop put7 enter read leave", 1, []int{7}, 1},
		{"put5 later put6 enter read leave", 1, []int{5}, 1},
		{"put5 later put6 wait drop enter read leave", 1, []int{5}, 1},
		{"put5 later put6 later enter read leave flush enter read leave put7 later enter read leave flush", 1, []int{5, 5, 7}, 0},
		{"put5 later put6 later put7 later put8 drop enter read leave flush", 2, []int{6}, 0},
	} {
		for _, f := range flavours() {
			s, codes := build(t, f, clientOf(c.words))
			s.Cells = len(s.Init) + c.room
			m := machineOf(t, s, codes)
			if !alone(m, 0) || m.Faults() > 0 || !slices.Equal(numbers(m, 0), c.notes) || m.Cells() != len(s.Init)+c.more {
				t.Error(f, c.words, m.Faults(), m.Marks(), m.Cells()-len(s.Init))
			}
		}
	}
}

// P80, P82: so it is where all cells of the greatest machine are given.
func TestFull(t *testing.T) {
	fills := strings.Repeat("put5 later ", 10)
	for _, f := range flavours() {
		m := machine(t, f, fills, fills, fills, fills, fills, fills)
		was := m.Cells()
		for thread := range api.MaxThreads {
			if !alone(m, thread) {
				t.Fatal(f, "not done")
			}
		}
		if m.Cells() != api.MaxCells || m.Faults() > 0 || was+60 <= api.MaxCells {
			t.Error(f, was, m.Cells(), m.Faults())
		}
		if alloc, err := m.Alloc(0); err != api.ErrFull {
			t.Error(f, alloc, err)
		}
	}
}

// P80: wait and flush wait for a section that is open; put, later and drop do not.
func TestWaits(t *testing.T) {
	for _, f := range flavours() {
		for words, waits := range map[string]bool{"wait": true, "flush": true, "put5 later flush": true, "put5 wait drop": true, "put5": false, "put5 drop": false, "put5 later": false, "rest": false, "enter read leave": false} {
			m := machine(t, f, "enter read read leave", words)
			untilNotes(m, 1)
			if over := alone(m, 1); over == waits {
				t.Error(f, words, "is over while a section is open:", over)
			}
			if !inTurns(m, 2) {
				t.Error(f, words, "is not done")
			}
		}
	}
}

// P80, P72: of api.Counted, rest, wait and flush end a wait that began ahead of them, though the thread goes into a section again; else it lasts.
func TestRest(t *testing.T) {
	for words, over := range map[string]bool{"rest": true, "wait": true, "flush": true, "": false, "enter leave": false} {
		m := machine(t, api.Counted, "enter read leave "+words+" enter read leave", "put5 wait drop")
		untilNotes(m, 1)
		if alone(m, 1) {
			t.Error(words, "is still to come")
		}
		untilNotes(m, 2)
		if alone(m, 1) != over {
			t.Error(words, "ends it:", !over)
		}
		if !inTurns(m, 2) || m.Faults() > 0 {
			t.Error(words, m.Faults())
		}
	}
}

// untilNotes are as many, thread 0 goes on.
func untilNotes(m *mach.Machine, count int) {
	for range 3000 {
		if len(m.Marks()) < count {
			m.Step(0)
		}
	}
}
