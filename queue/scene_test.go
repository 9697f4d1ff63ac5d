package queue

import (
	"slices"
	"strconv"
	"strings"
	"testing"

	"quiescent/api"
	"quiescent/arena"
	"quiescent/code"
	"quiescent/mach"
)

// counter gives numbers below n by a short rule, so that each run is the same.
func counter(seed uint32) func(n int) int {
	return func(n int) int {
		seed = seed*1664525 + 1013904223
		return int(seed>>16) % n
	}
}

// wordOp is an op: its kind, and its number right behind it, as in put5; else 0.
func wordOp(word string) api.Op {
	at := strings.IndexAny(word, "-0123456789")
	if at < 0 {
		return api.Op{Kind: word}
	}
	n, _ := strconv.Atoi(word[at:])
	return api.Op{Kind: word[:at], N: n}
}

// opsOf words: of each thread some.
func opsOf(words ...string) [][]api.Op {
	var l [][]api.Op
	for _, w := range words {
		var ops []api.Op
		for _, word := range strings.Fields(w) {
			ops = append(ops, wordOp(word))
		}
		l = append(l, ops)
	}
	return l
}

// build must do it.
func build(t *testing.T, l [][]api.Op) (mach.Start, [][]api.Instr) {
	t.Helper()
	s, codes, err := Build(l)
	if err != nil {
		t.Fatal(l, err)
	}
	return s, codes
}

func machineOf(t *testing.T, s mach.Start, codes [][]api.Instr) *mach.Machine {
	t.Helper()
	m, err := mach.New(s, codes)
	if err != nil {
		t.Fatal(err)
	}
	return m
}

// machine of threads that are told by words.
func machine(t *testing.T, words ...string) *mach.Machine {
	t.Helper()
	s, codes := build(t, opsOf(words...))
	return machineOf(t, s, codes)
}

// play is code of a thread, told by words: + and the number of a node puts that one, - takes one and notes what it holds, ! does so and frees what is not needed any more, ? notes its name; the other ones are instructions, with a comma in the place of a blank.
func play(t *testing.T, words string) []api.Instr {
	t.Helper()
	var l []api.Instr
	for i, word := range strings.Fields(words) {
		p := "p" + string([]byte{'a' + byte(i/26), 'a' + byte(i%26)})
		switch word[0] {
		case '+':
			n, _ := strconv.Atoi(word[1:])
			l = append(l, api.Instr{Op: "const", A: 3, B: nodeName(n)})
			l = append(l, must(t, Put, p)...)
		case '-', '!':
			l = append(l, must(t, Take, p)...)
			l = append(l, api.Instr{Op: "mark", A: 4})
			if word[0] == '!' {
				l = append(l, api.Instr{Op: "zero", A: 3, To: p + "none"}, api.Instr{Op: "free", A: 3}, api.Instr{Op: "label", To: p + "none"})
			}
		case '?':
			l = append(l, api.Instr{Op: "mark", A: 3})
		default:
			more, err := code.Read(strings.ReplaceAll(word, ",", " "))
			if err != nil {
				t.Fatal(word, err)
			}
			l = append(l, more...)
		}
	}
	return l
}

// piece is a call that makes code.
type piece func(p string) ([]api.Instr, error)

func pieces() map[string]piece { return map[string]piece{"put": Put, "take": Take} }

// must make it.
func must(t *testing.T, how piece, p string) []api.Instr {
	t.Helper()
	l, err := how(p)
	if err != nil {
		t.Fatal(p, err)
	}
	return l
}

// Names of the cells of a world; its nodes are told by numbers from 1 on, and 0 is the one that is ahead of the first one at the beginning.
const rootName = 1

func nodeName(n int) int { return n + 2 }

// world of threads that play so: the root, and then nodes, each of which holds ten times its number, and has other ones in the words behind the link.
func world(t *testing.T, nodes int, words ...string) (mach.Start, [][]api.Instr) {
	t.Helper()
	s := mach.Start{Cells: api.MaxCells, Init: [][]int{{nodeName(0), nodeName(0), 0, 53}}}
	for n := range nodes + 1 {
		s.Init = append(s.Init, []int{10 * n, 0, 20 + n, 30 + n})
	}
	s.Init[1][0] = 99 // it is passed over
	var codes [][]api.Instr
	for _, w := range words {
		codes = append(codes, play(t, w))
		s.Regs = append(s.Regs, []int{60, 61, 62, 63, 64, rootName, 66, 67})
	}
	return s, codes
}

func worldMachine(t *testing.T, nodes int, words ...string) *mach.Machine {
	t.Helper()
	s, codes := world(t, nodes, words...)
	return machineOf(t, s, codes)
}

// alone goes on with one thread, and nobody drains: it tells if the thread is done then.
func alone(m *mach.Machine, thread int) bool {
	for i := 0; i < 3000 && m.Step(thread) == nil; i++ {
	}
	return m.Done(thread)
}

// steps of one thread alone.
func steps(m *mach.Machine, thread, count int) {
	for range count {
		m.Step(thread)
	}
}

// inTurns goes on by at most as many numbers as a run may have, and tells if all threads are done then.
func inTurns(m *mach.Machine, threads int) bool {
	for i := range api.MaxSteps {
		if i%100 == 0 && allDone(m, threads) {
			return true
		}
		m.Run([]int{i})
	}
	return allDone(m, threads)
}

func allDone(m *mach.Machine, threads int) bool {
	for n := range threads {
		if !m.Done(n) {
			return false
		}
	}
	return true
}

// reg of a thread.
func reg(t *testing.T, m *mach.Machine, thread, r int) int {
	t.Helper()
	v, err := m.Reg(thread, r)
	if err != nil {
		t.Fatal(err)
	}
	return v
}

// word of the cell of that name.
func word(t *testing.T, m *mach.Machine, name, w int) int {
	t.Helper()
	r, err := arena.Ref(name)
	if err != nil {
		t.Fatal(name, err)
	}
	v, err := m.Peek(r, w)
	if err != nil {
		t.Fatal(r, err)
	}
	return v
}

// held is what the nodes hold that are linked behind the one ahead of the first one.
func held(t *testing.T, m *mach.Machine) []int {
	t.Helper()
	var l []int
	for name := word(t, m, word(t, m, reg(t, m, 0, 5), 0), 1); name > 0; name = word(t, m, name, 1) {
		if l = append(l, word(t, m, name, 0)); len(l) > api.MaxCells {
			t.Fatal("it goes around:", l)
		}
	}
	return l
}

// wantWhole queue, where nobody puts or takes: the last node is the one that the root names, and nobody has the lock.
func wantWhole(t *testing.T, m *mach.Machine) {
	t.Helper()
	root := reg(t, m, 0, 5)
	name := word(t, m, root, 0)
	for range api.MaxCells {
		if next := word(t, m, name, 1); next > 0 {
			name = next
		}
	}
	if last := word(t, m, root, 1); last != name || word(t, m, root, 2) != 0 {
		t.Error("the last one is", name, "and not", last, "lock:", word(t, m, root, 2))
	}
}

// noted by one thread.
func noted(m *mach.Machine, thread int) []int {
	var l []int
	for _, n := range m.Marks() {
		if n.Thread == thread {
			l = append(l, n.N)
		}
	}
	return l
}

// notedBy all threads together.
func notedBy(m *mach.Machine) []int {
	var l []int
	for _, n := range m.Marks() {
		l = append(l, n.N)
	}
	return l
}

// sorted numbers of all of these lists.
func sorted(lists ...[]int) []int {
	l := slices.Concat(lists...)
	slices.Sort(l)
	return l
}

// allEnds goes all ways from there on: unlike walk.All it tells those apart in which other things were noted, and goes on behind a fault. Each state is shown to see, and whether nothing comes any more.
func allEnds(t *testing.T, m *mach.Machine, threads int, see func(m *mach.Machine, end bool)) {
	t.Helper()
	found := map[string]bool{key(m, threads): true}
	for ahead := []*mach.Machine{m}; len(ahead) > 0; ahead = ahead[1:] {
		end := true
		for n := range 2 * threads {
			c := ahead[0].Copy()
			if c.Run([]int{n}) == 0 {
				continue
			}
			end = false
			if k := key(c, threads); !found[k] {
				found[k] = true
				ahead = append(ahead, c)
			}
		}
		see(ahead[0], end)
	}
}

func key(m *mach.Machine, threads int) string {
	b := []byte{byte(min(m.Faults(), 1))}
	for _, n := range m.State() {
		b = append(strconv.AppendInt(b, int64(n), 36), ' ')
	}
	for thread := range threads {
		b = append(b, '/')
		for _, n := range noted(m, thread) {
			b = append(strconv.AppendInt(b, int64(n), 36), ' ')
		}
	}
	return string(b)
}
