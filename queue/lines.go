package queue

import (
	"quiescent/api"
	"quiescent/threads"
)

// Registers.
const (
	spare  = 0 // with the one behind it also the lock's
	link   = 1
	ahead  = 2            // names the node ahead of the first one
	node   = threads.Node // names the one that is put, or is not needed any more
	number = 4            // that was taken
	root   = threads.Root
)

// Words of the root.
const (
	front = 0 // names the node ahead of the first one
	last  = 1
	lock  = 2
)

// Words of a node.
const (
	value = threads.Value
	next  = 1
)

// put makes the node the last one, and then links it to the one that was so: that one is there still, as nobody takes beyond it as long as it has no link. Both are swaps, which are fences: nobody finds the node without its words, and the link needs nobody's drain.
func put() []api.Instr {
	return []api.Instr{
		{Op: "move", A: spare, B: node},
		{Op: "swap", A: spare, B: root, C: last},
		{Op: "move", A: link, B: node},
		{Op: "swap", A: link, B: spare, C: next},
	}
}

// take, by who has the lock. The queue is empty where the last one is the one ahead of the first; else there is a first one, whose link may be yet to come. The first one stays, as the one ahead of the next; to the one that was ahead of it nobody comes any more.
func take(again, done string) []api.Instr {
	return []api.Instr{
		{Op: "const", A: node, B: 0},
		{Op: "const", A: number, B: 0},
		{Op: "load", A: ahead, B: root, C: front},
		{Op: "load", A: spare, B: root, C: last},
		{Op: "same", A: spare, B: ahead, To: done},
		{Op: "label", To: again},
		{Op: "load", A: node, B: ahead, C: next},
		{Op: "zero", A: node, To: again},
		{Op: "load", A: number, B: node, C: value},
		{Op: "store", A: root, B: node, C: front},
		{Op: "move", A: node, B: ahead},
		{Op: "label", To: done},
	}
}
