package grace

import (
	"quiescent/api"
	"quiescent/code"
)

// longest name of a piece of code.
const longest = 4

// Registers that name cells.
const (
	own = 6
	hub = 7
)

// number that sections show which begin from now on: a word of the hub.
const number = 0

// link to the next own cell: a word of each, and of the hub, so that a walk may begin there.
const link = 1

// Words of an own cell, but link.
const (
	shown  = 0 // the number of the section that is open, or of api.Counted that of the last rest; 0: nobody waits for this thread
	within = 2 // how many sections are open in that one
	kept   = 3 // api.Counted: what was shown ahead of a wait; api.Joined: the cell's own name, once it is linked
)

// maker of code of a flavour.
type maker struct {
	flavour
	lines
}

// made code, if the flavour and the name are some.
func made(f int, p string, body func(m *maker)) ([]api.Instr, error) {
	if err := flavour(f).check(); err != nil {
		return nil, err
	}
	if !code.IsName(p) || len(p) > longest {
		return nil, api.ErrName
	}
	m := &maker{flavour: flavour(f), lines: lines{p: p}}
	body(m)
	return m.code, nil
}

// show what register 0 has. Others must see it ahead of all that the thread finds behind it: so it is a swap, which is a fence.
func (m *maker) show() {
	if m.forces() { // those who wait bring the fence
		m.do("store", own, 0, shown)
		return
	}
	m.do("swap", 0, own, shown)
}

// outermost: where that word of the own cell is 0, the section is in no other one, and body adds what is done then. Others are counted by the thread alone: what it shows stays.
func (m *maker) outermost(word int, count string, body func()) {
	m.block(func(end string) {
		m.block(func(outer string) {
			m.do("load", 0, own, word)
			m.to(outer, "zero", 0)
			m.do("load", 0, own, within)
			m.do("const", 1, 1)
			m.do(count, 0, 0, 1)
			m.do("store", own, 0, within)
			m.to(end, "goto")
		})
		body()
	})
}

// join those that are linked, the first time. None is taken off again: so a cell that is the first one still was so all the while.
func (m *maker) join() {
	m.block(func(known string) {
		m.do("load", 0, own, kept)
		m.to(known, "same", 0, own)
		m.do("load", 0, hub, link)
		m.loop(func(again string) {
			m.do("move", 1, own)
			m.do("store", own, own, kept)
			m.do("store", own, 0, link)
			m.do("cas", hub, 0, link)
			m.do("load", 1, own, link)
			m.to(known, "same", 0, 1)
			m.to(again, "goto")
		})
	})
}

// withOwn: body adds what is done by a thread that has an own cell. Others may wait, too.
func (m *maker) withOwn(body func(end string)) {
	m.block(func(end string) {
		m.to(end, "zero", own)
		body(end)
	})
}

// rested shows the number behind the one in register 0, but where that one is 0: the thread is gone. Numbers are odd, so that they never go round to 0.
func (m *maker) rested(end string) {
	m.to(end, "zero", 0)
	m.do("const", 1, 2)
	m.do("add", 0, 0, 1)
	m.show()
}

// away: of api.Counted nobody waits for a thread while it does what body adds, so that two that wait at once do not wait for each other. Then it shows another number than before, for those who did not look meanwhile.
func (m *maker) away(body func()) {
	if !m.counts() {
		body()
		return
	}
	m.withOwn(func(string) {
		m.do("const", 0, 0)
		m.show()
		m.do("swap", 0, own, kept)
	})
	body()
	m.withOwn(func(end string) {
		m.do("load", 0, own, kept)
		m.rested(end)
	})
}

// each own cell that is linked is named by register 2 in turn, and what body adds is done; it goes on at next.
func (m *maker) each(body func(next string)) {
	m.block(func(end string) {
		m.do("move", 2, hub)
		m.loop(func(next string) {
			m.do("load", 2, 2, link)
			m.to(end, "zero", 2)
			body(next)
			m.to(next, "goto")
		})
	})
}

// outlast what the cell that register 2 names shows, if it is not 0. It is held against what was seen there, not against the hub: so it does no harm if a reader took its number long ago.
func (m *maker) outlast(next string) {
	m.do("load", 0, 2, shown)
	m.to(next, "zero", 0)
	if m.counts() {
		m.do("move", 1, 0)
	} else {
		m.renumber()
	}
	m.loop(func(again string) {
		if m.forces() { // the end of a section may be a store that waits
			m.do("force")
		}
		m.do("load", 0, 2, shown)
		m.to(again, "same", 0, 1)
	})
}

// renumber sections to come, if they would have the number in register 0: else a reader that is out and in again between two looks would not be told from one that stayed. Register 1 becomes that number.
func (m *maker) renumber() {
	m.do("const", 1, 2)
	m.do("add", 1, 1, 0)
	m.do("cas", hub, 0, number)
	m.do("const", 0, 2)
	m.do("sub", 1, 1, 0)
}
