package client

import (
	"quiescent/api"
	"quiescent/grace"
	"quiescent/spin"
)

// part makes some of a thread's code; p keeps its labels apart from those of other parts.
type part func(p string) ([]api.Instr, error)

// flavour of grace.
type flavour int

// op of a client, as a part.
func (f flavour) op(x api.Op) part {
	switch x.Kind {
	case "enter":
		return f.piece(grace.Enter)
	case "leave":
		return f.piece(grace.Leave)
	case "rest":
		return f.piece(grace.Rest)
	case "wait":
		return f.piece(grace.Wait)
	case "flush":
		return both(f.piece(grace.Wait), named(empty()))
	case "read":
		return named(read())
	case "put":
		return named(put(x.N))
	case "drop":
		return named(drop())
	}
	return named(later())
}

// piece of grace.
func (f flavour) piece(how func(f int, p string) ([]api.Instr, error)) part {
	return func(p string) ([]api.Instr, error) { return how(int(f), p) }
}

// named code, whose own labels begin as no p does.
func named(l []api.Instr) part {
	return func(p string) ([]api.Instr, error) { return spin.Named(p, l) }
}

// both parts, one behind the other.
func both(first, second part) part {
	return func(p string) ([]api.Instr, error) {
		l, err := first(p)
		if err != nil {
			return nil, err
		}
		more, err := second(p)
		return append(l, more...), err
	}
}
