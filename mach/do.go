package mach

import (
	"quiescent/api"
	"quiescent/arena"
)

// do an instruction of a thread, whose place is behind it already.
func (m *Machine) do(t int, x api.Instr) {
	r := &m.threads[t].registers
	switch x.Op {
	case "const":
		r[x.A] = x.B
	case "move":
		r[x.A] = r[x.B]
	case "add":
		r[x.A] = round(r[x.B] + r[x.C])
	case "sub":
		r[x.A] = round(r[x.B] - r[x.C])
	case "and":
		r[x.A] = r[x.B] & r[x.C]
	case "xor":
		r[x.A] = r[x.B] ^ r[x.C]
	case "zero":
		m.jump(t, x.To, r[x.A] == 0)
	case "same":
		m.jump(t, x.To, r[x.A] == r[x.B])
	case "goto":
		m.jump(t, x.To, true)
	case "mark":
		m.mark(t, r[x.A])
	case "need":
		m.need(r[x.A])
	default:
		m.touch(t, x)
	}
}

// touch the memory, where the instruction is one that does.
func (m *Machine) touch(t int, x api.Instr) {
	r := &m.threads[t].registers
	switch x.Op {
	case "load":
		r[x.A] = m.load(t, r[x.B], x.C)
	case "store":
		m.store(t, r[x.A], x.C, r[x.B])
	case "swap":
		r[x.A] = m.swap(t, r[x.B], x.C, r[x.A])
	case "cas":
		r[x.B] = m.cas(t, r[x.A], x.C, r[x.B], r[x.B+1])
	case "alloc":
		r[x.A] = m.alloc(t)
	case "free":
		m.free(t, r[x.A])
	case "fence":
		m.fence(t)
	case "force":
		for each := range m.programs {
			m.fence(each)
		}
	}
}

func (m *Machine) jump(t int, to string, yes bool) {
	if yes {
		m.threads[t].place = m.programs[t].labels[to]
	}
}

func (m *Machine) mark(t, n int) {
	if len(m.marks) < api.MaxMarks {
		m.marks = append(m.marks, Mark{Thread: t, N: n})
	}
}

func (m *Machine) need(n int) {
	if n == 0 {
		m.faults++
	}
}

func (m *Machine) load(t, name, w int) int {
	r, ok := m.named(name)
	if !ok {
		return 0
	}
	v, _ := m.Load(t, r, w)
	return v
}

func (m *Machine) store(t, name, w, v int) {
	r, ok := m.named(name)
	if !ok {
		return
	}
	if m.Waiting(t) == api.MaxWaits {
		m.Drain(t)
	}
	m.Store(t, r, w, v)
}

func (m *Machine) swap(t, name, w, v int) int {
	r, ok := m.ready(t, name)
	if !ok {
		return 0
	}
	was, _ := m.Swap(t, r, w, v)
	return was
}

func (m *Machine) cas(t, name, w, old, v int) int {
	r, ok := m.ready(t, name)
	if !ok {
		return 0
	}
	was, _ := m.Cas(t, r, w, old, v)
	return was
}

func (m *Machine) alloc(t int) int {
	r, err := m.Alloc(t)
	if err != nil {
		return 0
	}
	name, _ := arena.Word(r) // 0 where its Gen is too great for a word: nothing can name it then
	return name
}

func (m *Machine) free(t, name int) {
	if r, ok := m.ready(t, name); ok {
		m.Free(t, r)
	}
}

// fence drains one by one, as each store whose cell is gone is a fault of its own.
func (m *Machine) fence(t int) {
	for m.Waiting(t) > 0 {
		m.Drain(t)
	}
}

// named is the cell that a word names, if it is there; else that is a fault.
func (m *Machine) named(name int) (api.Ref, bool) {
	r, err := arena.Ref(name)
	if err == nil {
		err = m.Check(r, 0)
	}
	if err != nil {
		m.faults++
		return api.Ref{}, false
	}
	return r, true
}

// ready is as named, where what waits is done ahead of all else. The memory's own fence would end the call at a store whose cell is gone, and here the call is done all the same.
func (m *Machine) ready(t, name int) (api.Ref, bool) {
	r, ok := m.named(name)
	if ok {
		m.fence(t)
	}
	return r, ok
}

// round goes around at the greatest word.
func round(n int) int { return n & arena.MaxWord }
