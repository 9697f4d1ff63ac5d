package client

import (
	"quiescent/api"
	"quiescent/grace"
	"quiescent/threads"
)

// Registers: threads.Root names the cell that names what is published.
const (
	some    = threads.Some
	retired = threads.Node // names what was retired last; 0, if there was no cell
	root    = threads.Root
)

// Words of a cell that is put; its first one is also that of the root.
const (
	value = threads.Value
	next  = 1 // the one that came to the list ahead of it
)

// flavour of grace.
type flavour int

// op of a client, as code.
func (f flavour) op(x api.Op) ([]api.Instr, error) {
	switch x.Kind {
	case "enter":
		return grace.Enter(int(f), "g")
	case "leave":
		return grace.Leave(int(f), "g")
	case "rest":
		return grace.Rest(int(f), "g")
	case "wait":
		return grace.Wait(int(f), "g")
	case "flush":
		l, err := grace.Wait(int(f), "g")
		return append(l, threads.Empty(next)...), err
	case "read":
		return read(), nil
	case "put":
		return put(x.N), nil
	case "drop": // it leaves the register as it is: the next one that asks for it is behind a put
		return threads.Unless(retired, api.Instr{Op: "free", A: retired}), nil
	}
	return threads.Unless(retired, threads.Keep(next)...), nil // readers that still have the cell do not look at its link
}

func read() []api.Instr {
	return []api.Instr{
		{Op: "load", A: some, B: root, C: value},
		{Op: "load", A: some, B: some, C: value},
		{Op: "need", A: some},
		{Op: "mark", A: some},
	}
}

// put needs no fence ahead of its swap: that is one, so that nobody finds the cell without its number.
func put(n int) []api.Instr {
	return threads.New(n, api.Instr{Op: "swap", A: retired, B: root, C: value})
}
