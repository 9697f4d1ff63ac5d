package grace

import (
	"slices"
	"strings"
	"testing"

	"quiescent/api"
	"quiescent/mach"
)

// until a thread has noted something.
func until(t *testing.T, m *mach.Machine, thread int, note string) {
	t.Helper()
	for range 10000 {
		for _, n := range m.Marks() {
			if n.Thread == thread && notes()[n.N] == note {
				return
			}
		}
		m.Step(thread)
	}
	t.Fatal("thread", thread, "does not come to", note)
}

// P73: where threads take turns, all are done behind MaxSteps numbers.
func TestTurns(t *testing.T) {
	kinds := []string{
		"wait wait gone", "put wait free put wait free gone",
		"enter*6 read leave*6 rest rest gone",
		"enter read leave enter read leave enter read leave rest enter read leave enter read leave enter read leave rest gone",
		"enter enter fill*9 leave enter leave leave rest rest enter read enter fill*9 leave leave enter leave gone",
	}
	for _, f := range flavours() {
		for i := range 125 {
			words := []string{kinds[i%5], kinds[i/5%5], kinds[i/25]}
			for _, from := range []int{0, 1, 5} {
				m := machine(t, f, words...)
				if !inTurns(m, from, 0, 1, 2) || m.Faults() > 0 || m.Cells() != extra(3) {
					t.Error(f, words, from, m.Faults(), m.Cells())
				}
			}
		}
	}
}

// P73: a wait ends when sections do, where others go on with new ones for ever.
func TestTurnsWithEndlessReaders(t *testing.T) {
	for _, f := range flavours() {
		for _, reader := range []string{"from enter leave rest ever", "from enter read leave rest ever", "from enter*3 fill*9 leave*3 rest ever", "from enter leave enter leave rest ever"} {
			for _, writers := range []string{"put wait free put wait free gone", "wait wait gone", "late wait free wait gone"} {
				for _, ahead := range []string{"", "fence", "fill fill", "fill*9 fence fence"} {
					m := machine(t, f, join(ahead, reader), join(ahead, writers), reader)
					if !inTurns(m, 0, 1) || m.Faults() > 0 || m.Cells() != extra(3) {
						t.Error(f, reader, writers, ahead, m.Faults(), m.Cells())
					}
				}
			}
		}
	}
}

func join(l ...string) string { return strings.TrimSpace(strings.Join(l, " ")) }

// P73: it ends also where the reader is in a section whenever the one who waits has its turn.
func TestReaderNeverFoundOutside(t *testing.T) {
	for _, f := range flavours() {
		m := machine(t, f, "from enter read leave rest ever", "begin wait end gone")
		until(t, m, 1, "begin")
		for range 50000 {
			m.Run([]int{0, 2})
			if v, _ := m.Peek(api.Ref{Cell: 1}, shown); v > 0 {
				m.Step(1)
			}
		}
		if !m.Done(1) {
			t.Error(f, "it waits for sections that began later")
		}
	}
}

// P70: a wait holds as long as a section is open that was open when it began, however deep, and no longer.
func TestHeld(t *testing.T) {
	for _, f := range flavours() {
		for _, c := range []string{"enter open again close leave", "enter*2 open again close leave*2", "enter*9 open again close leave*9", "enter*9 leave*8 open again close leave", "enter leave enter open again close leave", "enter*3 leave enter leave leave enter open again close leave*2"} {
			m := machine(t, f, "fill*9 "+c+" rest", "begin wait end gone", "begin wait end gone")
			until(t, m, 0, "open")
			if alone(m, 1) || alone(m, 2) {
				t.Error(f, c, "it ends ahead of the section")
			}
			alone(m, 0)
			if !alone(m, 1) || !alone(m, 2) {
				t.Error(f, c, "it does not end behind the section, where nobody drains")
			}
		}
	}
}

// deep code: sections in each other, and then as many of them are left.
func deep(t *testing.T, f, enters, leaves int) []api.Instr {
	t.Helper()
	times := func(label string, how piece, count int) []api.Instr {
		return slices.Concat(
			[]api.Instr{{Op: "const", A: 3, B: count}, {Op: "const", A: 4, B: 1}, {Op: "label", To: label}}, must(t, how, f, label[:2]),
			[]api.Instr{{Op: "sub", A: 3, B: 3, C: 4}, {Op: "zero", A: 3, To: label + "x"}, {Op: "goto", To: label}, {Op: "label", To: label + "x"}})
	}
	return slices.Concat(times("up.loop", Enter, enters), times("down.loop", Leave, leaves))
}

// P72: 100 sections in each other are one, up to the last end.
func TestDeep(t *testing.T) {
	for _, f := range flavours() {
		for left, want := range map[int]bool{1: false, 2: false, 50: false, 99: false, 100: true} {
			codes := plays(t, f, "", "wait")
			codes[0] = deep(t, f, 100, left)
			if left == 100 {
				codes[0] = slices.Concat(codes[0], play(t, f, "gone"))
			}
			m := machineOf(t, world(t, f, 2), codes)
			if !alone(m, 0) {
				t.Fatal(f, left)
			}
			m.Run(slices.Repeat([]int{2}, api.MaxWaits))
			if alone(m, 1) != want || m.Faults() > 0 {
				t.Error(f, "behind the end of", left, "sections of 100: over:", !want)
			}
		}
	}
}

// P73: what the one who waits has stored is seen by who comes later, though it waited.
func TestOwnStoresAreSeen(t *testing.T) {
	for _, f := range flavours() {
		m := machine(t, f, "enter leave rest enter read again leave gone", "late wait free gone")
		first := world(t, f, 2).Init[3][0] // what is published at the beginning
		if !alone(m, 1) && f != api.Counted {
			t.Error(f, "nobody is in a section")
		}
		if v, _ := m.Peek(api.Ref{Cell: 3}, 0); v == first {
			t.Error(f, "what is taken away can be found still")
		}
		if !alone(m, 0) || !alone(m, 1) || m.Faults() > 0 || m.Cells() != extra(2) {
			t.Error(f, m.Faults(), m.Cells())
		}
	}
}

// P70, P72: only api.Counted asks for rest; of the others a wait ends though readers neither rest nor go.
func TestWithoutRest(t *testing.T) {
	for _, f := range []int{api.Fenced, api.Forced, api.Joined} {
		m := machine(t, f, "enter read leave begin", "put begin wait end free", "put wait free")
		until(t, m, 0, "begin")
		if !alone(m, 1) || !alone(m, 2) || m.Faults() > 0 {
			t.Error(f, m.Faults())
		}
	}
}

// P72: nobody waits for a thread that never was in a section, or is gone, or waits itself.
func TestOthersAreNotWaitedFor(t *testing.T) {
	for _, f := range flavours() {
		for _, other := range []string{"gone begin", "enter leave gone begin", "enter leave rest gone begin", "gone rest begin", "gone wait begin", "gone wait gone rest begin"} {
			m := machine(t, f, other, "gone begin wait wait")
			until(t, m, 1, "begin")
			until(t, m, 0, "begin")
			m.Run(slices.Repeat([]int{2}, api.MaxWaits))
			if !alone(m, 1) {
				t.Error(f, other)
			}
		}
		m := machine(t, f, "gone", "wait wait enter open close leave gone", "wait wait gone")
		alone(m, 0)
		alone(m, 1)
		alone(m, 2)
		if !inTurns(m, 0, 0, 1, 2) {
			t.Error(f, "two that wait, wait for each other")
		}
	}
}
