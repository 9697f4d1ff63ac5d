package client

import "quiescent/api"

// Registers: grace has 0, 1 and 2, too, and leaves 3 to 5 alone.
const (
	some    = 0
	retired = 3 // names what was retired last; 0, if there was no cell
	list    = 4 // names the thread's list: the cell that came to it last; 0: none
	root    = 5 // names the cell that names what is published
	own     = 6
	hub     = 7
)

// Words of a cell that is put; its first one is also that of the root.
const (
	value = 0
	next  = 1 // the one that came to the list ahead of it
)

func read() []api.Instr {
	return []api.Instr{
		{Op: "load", A: some, B: root, C: value},
		{Op: "load", A: some, B: some, C: value},
		{Op: "need", A: some},
		{Op: "mark", A: some},
	}
}

// put needs no fence ahead of its swap: that is one, so that nobody finds the cell without its number.
func put(n int) []api.Instr {
	return []api.Instr{
		{Op: "alloc", A: retired},
		{Op: "zero", A: retired, To: "none"},
		{Op: "const", A: some, B: n},
		{Op: "store", A: retired, B: some, C: value},
		{Op: "swap", A: retired, B: root, C: value},
		{Op: "label", To: "none"},
	}
}

// drop leaves the register as it is: the next one that asks for it is behind a put.
func drop() []api.Instr {
	return []api.Instr{
		{Op: "zero", A: retired, To: "none"},
		{Op: "free", A: retired},
		{Op: "label", To: "none"},
	}
}

// later: readers that still have the cell do not look at its link.
func later() []api.Instr {
	return []api.Instr{
		{Op: "zero", A: retired, To: "none"},
		{Op: "store", A: retired, B: list, C: next},
		{Op: "move", A: list, B: retired},
		{Op: "label", To: "none"},
	}
}

// empty the list.
func empty() []api.Instr {
	return []api.Instr{
		{Op: "label", To: "more"},
		{Op: "zero", A: list, To: "none"},
		{Op: "load", A: some, B: list, C: next},
		{Op: "free", A: list},
		{Op: "move", A: list, B: some},
		{Op: "goto", To: "more"},
		{Op: "label", To: "none"},
	}
}

func stop() []api.Instr { return []api.Instr{{Op: "stop"}} }
