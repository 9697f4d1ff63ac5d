package grace

import (
	"slices"
	"testing"

	"quiescent/api"
	"quiescent/mach"
)

// P72: of api.Counted, a rest ends a wait that began ahead of it; so does a wait, or to be gone.
func TestRest(t *testing.T) {
	for _, word := range []string{"rest", "gone", "wait"} {
		m := machine(t, api.Counted, "enter open read close leave begin "+word+" end from ever", "gone", "begin wait end")
		alone(m, 1)
		until(t, m, 0, "begin")
		if alone(m, 2) {
			t.Error("not in a section, but who knows?")
		}
		until(t, m, 0, "end")
		if !alone(m, 2) {
			t.Error(word, "is no rest")
		}
	}
}

// P72: a rest that was ahead of what was found does not count, whatever is drained later.
func TestRestAhead(t *testing.T) {
	for _, words := range []string{"rest", "rest rest", "fill*3 rest", "fill*8 rest fill", "rest enter leave rest"} {
		m := machine(t, api.Counted, words+" enter open read again close leave gone", "put wait free gone")
		until(t, m, 0, "open")
		early := alone(m, 1)
		m.Run(slices.Repeat([]int{2}, api.MaxWaits))
		if early || alone(m, 1) {
			t.Error(words, "counts for what came later")
		}
		if !inTurns(m, 0, 0, 1) || m.Faults() > 0 {
			t.Error(words, m.Faults())
		}
	}
}

// P72: behind a wait a thread is waited for again, at once.
func TestBackFromWait(t *testing.T) {
	for _, words := range []string{"wait", "wait wait", "rest wait", "fill*9 wait fill"} {
		m := machine(t, api.Counted, words+" enter open read again close leave gone", "gone begin put wait free")
		until(t, m, 1, "begin")
		until(t, m, 0, "open")
		if alone(m, 1) {
			t.Error(words, "it ends ahead of the section")
		}
		if !inTurns(m, 0, 0, 1) || m.Faults() > 0 {
			t.Error(words, m.Faults())
		}
	}
}

// ownless threads: those from that one on have no own cell.
func ownless(s mach.Start, from int) mach.Start {
	for n := from; n < len(s.Regs); n++ {
		s.Regs[n][own] = 0
	}
	return s
}

// P72: whatever thread may wait, also one that has no own cell; it keeps nobody waiting.
func TestWaitWithoutOwnCell(t *testing.T) {
	for _, f := range flavours() {
		s := ownless(world(t, f, 3), 1)
		s.Init[1] = append(s.Init[1][:1], 0) // the links end there
		m := machineOf(t, s, plays(t, f, "enter open read again close leave rest begin gone", "put begin wait end free rest gone wait", "begin wait wait end gone rest"))
		until(t, m, 0, "open")
		if alone(m, 1) || alone(m, 2) {
			t.Error(f, "it ends ahead of the section")
		}
		until(t, m, 0, "begin")
		m.Run([]int{3, 3, 3})
		if !inTurns(m, 0, 0, 1, 2) || m.Faults() > 0 || m.Cells() != extra(3) {
			t.Error(f, m.Faults(), m.Cells())
		}
	}
}

// P72: no own cell at all: there is nobody to wait for.
func TestWaitAlone(t *testing.T) {
	for _, f := range flavours() {
		s := ownless(world(t, f, 1), 0)
		if n, _ := Link(f); n >= 0 {
			s.Init[0][n] = 0
		}
		m := machineOf(t, s, plays(t, f, "rest late wait free gone wait"))
		if !alone(m, 0) || m.Faults() > 0 || m.Cells() != extra(1) {
			t.Error(f, m.Faults(), m.Cells())
		}
	}
}
