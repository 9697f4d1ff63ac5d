package grace

import (
	"slices"
	"strconv"
	"strings"
	"testing"

	"quiescent/mach"
)

// section of a random play: sections in it, and what is done there. Its notes are where it is open for certain.
func section(next func(n int) int) string {
	deep := strconv.Itoa(1 + next(3))
	l := []string{"enter*" + deep, "open", "read"}
	for range next(4) {
		l = append(l, []string{"again", "read", "fill", "enter again leave", "fill*9"}[next(5)])
	}
	return strings.Join(append(l, "again", "close", "leave*"+deep), " ")
}

// someWords of a thread: sections, and what is put and freed behind a wait.
func someWords(next func(n int) int) string {
	var l []string
	for range 1 + next(5) {
		switch next(8) {
		case 0:
			l = append(l, "rest")
		case 1:
			l = append(l, "fill*"+strconv.Itoa(next(10)), "begin wait end")
		case 2, 3:
			l = append(l, "put begin wait end free")
		default:
			l = append(l, section(next))
		}
	}
	if next(8) == 0 { // who is gone may wait still
		l = append(l, "gone", "wait", "rest", "put begin wait end free")
	}
	return strings.Join(append(l, "gone"), " ")
}

// someRun of a machine, by numbers of one kind or another.
func someRun(m *mach.Machine, next func(n int) int, threads int) {
	numbers := 2 * threads
	if next(4) == 0 { // nobody drains
		numbers = threads
	}
	long := 1 << next(8)
	for range 600 {
		n := next(numbers)
		for range 1 + next(long) {
			m.Run([]int{n})
		}
	}
}

// wantOutlasted looks at what is noted: a wait's end comes behind the end of each section that was open when it began. It tells how many were.
func wantOutlasted(t *testing.T, m *mach.Machine, threads int) int {
	t.Helper()
	count := 0
	open := make([]bool, threads)
	held := make([][]bool, threads) // of a thread that waits: who still is in a section that was open when it began
	for _, n := range m.Marks() {
		switch notes()[n.N] {
		case "open":
			open[n.Thread] = true
		case "close":
			open[n.Thread] = false
			for _, by := range held {
				if by != nil {
					by[n.Thread] = false
				}
			}
		case "begin":
			held[n.Thread] = slices.Clone(open)
			if slices.Contains(open, true) {
				count++
			}
		case "end":
			if by := slices.Index(held[n.Thread], true); by >= 0 {
				t.Error("thread", n.Thread, "did not wait for", by, m.Marks())
			}
		}
	}
	return count
}

// P70, P72, P73: whatever the schedule: what is found is there, no wait ends ahead of a section that was open when it began, and all come to their end.
func TestSafe(t *testing.T) {
	for _, f := range flavours() {
		count := 0
		for seed := range uint32(1000) {
			next := counter(seed)
			threads := 2 + next(5)
			var words []string
			for range threads {
				words = append(words, someWords(next))
			}
			m := machine(t, f, words...)
			someRun(m, next, threads)
			if !inTurns(m, 0, upTo(threads)...) || m.Faults() > 0 || m.Cells() != extra(threads) {
				t.Fatal(f, seed, strings.Join(words, "\n"), m.Faults(), m.Cells())
			}
			count += wantOutlasted(t, m, threads)
		}
		if count < 300 {
			t.Error(f, "sections were open too seldom:", count)
		}
	}
}
