package stack

import (
	"quiescent/api"
	"quiescent/threads"
)

// Registers.
const (
	top     = 0 // what the top was, when this thread looked last
	instead = 1 // what it becomes, if it still is that: cas takes the register behind top
	seen    = 2
	node    = threads.Node
	root    = threads.Root // names the cell whose first word names the top
)

// Words of a node; the first one is also that of the root.
const (
	value = threads.Value
	next  = 1
	kept  = 2 // the one that came to the list of what is retired ahead of it: sections that still have the node find next as it was
)

// push is done where the top is still the one that the node names as its next. Cas is a fence: nobody finds the node without its words.
func push(again, done string) []api.Instr {
	return []api.Instr{
		{Op: "move", A: instead, B: node},
		{Op: "load", A: top, B: root, C: value},
		{Op: "label", To: again},
		{Op: "move", A: seen, B: top},
		{Op: "store", A: node, B: top, C: next},
		{Op: "cas", A: root, B: top, C: value},
		{Op: "same", A: top, B: seen, To: done},
		{Op: "goto", To: again}, // with the top that cas has told
		{Op: "label", To: done},
	}
}

// pop: as the top was found within the section, it is not freed, so that its next may be read, and no other node has its name, so that cas is not misled.
func pop(again, done string) []api.Instr {
	return []api.Instr{
		{Op: "load", A: top, B: root, C: value},
		{Op: "label", To: again},
		{Op: "move", A: node, B: top},
		{Op: "zero", A: node, To: done},
		{Op: "load", A: instead, B: node, C: next},
		{Op: "cas", A: root, B: top, C: value},
		{Op: "same", A: top, B: node, To: done},
		{Op: "goto", To: again},
		{Op: "label", To: done},
	}
}
