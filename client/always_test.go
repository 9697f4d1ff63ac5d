package client

import (
	"slices"
	"strconv"
	"strings"
	"testing"

	"quiescent/api"
	"quiescent/mach"
	"quiescent/walk"
)

// wantWalk of a client: with which faults, in all ways.
func wantWalk(t *testing.T, fault bool, words ...string) {
	t.Helper()
	for _, f := range flavours() {
		s, codes := build(t, f, clientOf(words...))
		told, err := walk.All(s, codes, api.MaxStates)
		if told.Fault != fault || !fault && told.Ends == 0 || err != nil {
			t.Error(f, words, told, err)
		}
	}
}

// P83: in no way has a safe client a fault; without its wait it may have one.
func TestAllWays(t *testing.T) {
	for _, c := range []struct{ reader, safe, unsafe string }{
		{"enter read leave", "put5 wait drop", "put5 drop"},
		{"enter read leave", "put5 flush drop", "put5 drop flush"},
		{"enter read leave", "put5 wait drop put6 wait drop", "put5 drop wait put6 wait drop"},
		{"enter read leave rest", "put5 wait drop", "put5 rest drop"},
		{"enter read leave enter read leave", "put5 wait drop", "put5 drop"},
		{"enter enter read leave read leave", "put5 wait drop", "put5 enter read leave drop"},
		{"enter leave enter read read leave", "put5 wait enter drop leave", "put5 enter drop leave wait"},
		{"wait enter read leave", "rest put5 wait drop", "rest put5 drop wait"},
		{"enter read leave wait", "wait put5 wait drop", "put5 drop wait"},
		{"enter read leave put6 wait drop", "enter read leave put5 wait drop", "enter read leave put5 drop"},
		{"enter read leave put6 later flush", "put5 wait drop", "put5 drop"},
		{"rest enter read leave rest", "put5 later put6 wait drop flush", "put5 later put6 drop flush"},
	} {
		wantWalk(t, false, c.reader, c.safe)
		wantWalk(t, true, c.reader, c.unsafe)
		wantWalk(t, true, c.unsafe, c.reader)
	}
	for _, words := range []string{"put5 later flush", "put5 later put6 later flush", "put5 later flush put6 later", "put5 later put6 flush drop", "put5 wait later put6 later flush"} {
		wantWalk(t, false, "enter read leave", words)
	}
	wantWalk(t, false, "put5 wait drop", "put6 wait drop")
	wantWalk(t, false, "put5 drop", "put6 drop") // nobody reads
	wantWalk(t, false, "wait", "wait")
}

// P83: neither has any one of those that take something away from one reader.
func TestAllWriters(t *testing.T) {
	for _, words := range lists(4) {
		safe, _ := Safe(clientOf(words))
		if last := words[strings.LastIndex(words, " ")+1:]; safe && has(words, "put5") && has(last, "drop", "flush") {
			wantWalk(t, false, words, "enter read leave")
		}
	}
}

// P83: three threads, so far as their ways are few.
func TestAllWaysOfThree(t *testing.T) {
	for _, f := range flavours() {
		s, codes := build(t, f, clientOf("enter read leave", "enter read leave", "put5 wait drop"))
		told, err := walk.All(s, codes, api.MaxStates)
		if told.Fault || err != nil && err != api.ErrBound {
			t.Error(f, told, err)
		}
	}
}

// P83: whatever a client of at most 3 threads and 3 ops each does, it is done behind MaxSteps numbers that go round.
func TestTurns(t *testing.T) {
	all := lists(3)
	for i := 0; i < len(all)*len(all)*len(all); i += 97 { // all of them would take too long
		words := []string{all[i%len(all)], all[i/len(all)%len(all)], all[i/len(all)/len(all)]}
		if f := flavours()[i%4]; !inTurns(machine(t, f, words...), 3) {
			t.Error(f, words)
		}
	}
}

// P83: so are those that wait most, in each order, and of each flavour; whoever goes first.
func TestTurnsThatWait(t *testing.T) {
	some := []string{"wait wait wait", "flush flush flush", "put5 later flush", "put5 wait drop", "enter read leave", "put5 enter leave", "put5 rest flush", "wait flush put5", "flush enter leave", ""}
	for _, f := range flavours() {
		for i := range len(some) * len(some) * len(some) {
			words := []string{some[i%10], some[i/10%10], some[i/100]}
			m := machine(t, f, words...)
			m.Run(slices.Repeat([]int{i % 3}, i%50))
			if !inTurns(m, 3) || m.Faults() > 0 {
				t.Error(f, words, m.Faults())
			}
		}
	}
}

// someWords of a thread that is safe; nothing is retired at the end.
func someWords(next func(n int) int) string {
	var l []string
	for range 1 + next(8) {
		more := append(slices.Clone(l), strings.Fields(chunk(next))...)
		if len(more) < api.MaxOps {
			l = more
		}
	}
	if words := strings.Join(l, " "); strings.LastIndex(words, "later") > strings.LastIndex(words, "flush") {
		l = append(l, "flush")
	}
	return strings.Join(l, " ")
}

// chunk of words that stand together.
func chunk(next func(n int) int) string {
	l := []string{
		"enter read leave", "enter read read leave", "enter enter read leave read leave", "enter leave", "rest", "wait", "flush",
		"put5 wait drop", "put5 enter read leave wait drop", "put5 wait enter read drop leave", "put5 flush drop", "put5 later", "put5 wait later", "put5 later put5 later flush",
	}
	return l[next(len(l))]
}

// differing numbers in the place of the puts' ones.
func differing(threads []string) []string {
	var l []string
	n := 5
	for _, words := range threads {
		for has(words, "put5") {
			n++
			words = strings.Replace(words+" ", "put5 ", "put"+strconv.Itoa(n)+" ", 1)
		}
		l = append(l, words)
	}
	return l
}

// someRun of a machine: now and then a reader is stopped where it has found something, and others go on.
func someRun(m *mach.Machine, next func(n int) int, threads int) {
	numbers := 2 * threads
	if next(4) == 0 { // nobody drains
		numbers = threads
	}
	long := 1 << next(9)
	for range 100 {
		stopped := next(threads)
		find(m, stopped, 1+next(4))
		for range next(8) {
			n := next(numbers)
			for range 1 + next(long) {
				if n%threads != stopped {
					m.Run([]int{n})
				}
			}
		}
	}
}

// find something: the thread goes on alone up to so many steps ahead of its next note, if it comes to one.
func find(m *mach.Machine, thread, ahead int) {
	steps, c := 0, m.Copy()
	for was := len(c.Marks()); len(c.Marks()) == was; steps++ {
		if steps == 300 || c.Step(thread) != nil {
			return
		}
	}
	for range steps - ahead {
		m.Step(thread)
	}
}

// wantNotes: as many as there are reads, each 1 or what somebody has put.
func wantNotes(t *testing.T, m *mach.Machine, threads []string) {
	t.Helper()
	all := strings.Join(threads, " ")
	for thread, words := range threads {
		notes := numbers(m, thread)
		if len(notes) != count(words, "read") {
			t.Error(threads, "thread", thread, "has read", notes)
		}
		for _, n := range notes {
			if n != 1 && !has(all, "put"+strconv.Itoa(n)) {
				t.Error(threads, "nobody has put", n)
			}
		}
	}
}

// someThreads of a client, each safe.
func someThreads(next func(n int) int) []string {
	var threads []string
	for range 1 + next(api.MaxThreads) {
		threads = append(threads, someWords(next))
	}
	return differing(threads)
}

// P83: whatever the schedule, a safe client has no fault, reads what was put, and leaves as many cells as there were.
func TestSomeClients(t *testing.T) {
	for _, f := range flavours() {
		put, read := 0, 0
		for seed := range uint32(600) {
			next := counter(seed)
			threads := someThreads(next)
			if safe, err := Safe(clientOf(threads...)); !safe || err != nil {
				t.Fatal(threads, safe, err)
			}
			m := machine(t, f, threads...)
			was := m.Cells()
			someRun(m, next, len(threads))
			for range 10 { // these may be greater than those that must be done sooner
				inTurns(m, len(threads))
			}
			if !allDone(m, len(threads)) || m.Faults() > 0 || m.Cells() != was {
				t.Fatal(f, seed, strings.Join(threads, "\n"), m.Faults(), m.Cells()-was)
			}
			wantNotes(t, m, threads)
			put += strings.Count(strings.Join(threads, " "), "put")
			read += len(slices.DeleteFunc(m.Marks(), func(n mach.Mark) bool { return n.N == 1 }))
		}
		if put < 1000 || read < 1000 {
			t.Error(f, "too little is done:", put, read)
		}
	}
}

// P83: where these do not wait, there are faults, so that the schedules would tell; they are done all the same.
func TestSomeUnsafeClients(t *testing.T) {
	for _, f := range flavours() {
		faults := 0
		for seed := range uint32(600) {
			next := counter(seed)
			threads := someThreads(next)
			for i, words := range threads {
				threads[i] = strings.ReplaceAll(words, "wait", "rest")
			}
			m := machine(t, f, threads...)
			someRun(m, next, len(threads))
			for range 10 {
				inTurns(m, len(threads))
			}
			if !allDone(m, len(threads)) {
				t.Fatal(f, seed, "not done")
			}
			faults += min(m.Faults(), 1)
		}
		if faults < 20 {
			t.Error(f, "too few have faults:", faults)
		}
	}
}
