package script

import (
	"strconv"
	"strings"

	"quiescent/walk"
)

// command of a script: how many numbers stand behind its name, if others may follow these, and what it does with them.
type command struct {
	numbers int
	more    bool
	do      func(p *player, n []int) (string, error)
}

// takes so many numbers?
func (c command) takes(count int) bool {
	return count == c.numbers || c.more && count > c.numbers
}

// commands by their names.
func commands() map[string]command {
	return map[string]command{
		"step":   {numbers: 1, do: func(p *player, n []int) (string, error) { return "ok", p.Step(n[0]) }},
		"drain":  {numbers: 1, do: func(p *player, n []int) (string, error) { return "ok", p.Drain(n[0]) }},
		"run":    {numbers: 1, more: true, do: func(p *player, n []int) (string, error) { return row(p.Run(n)), nil }},
		"reg":    {numbers: 2, do: register},
		"marks":  {do: func(p *player, _ []int) (string, error) { return marks(p), nil }},
		"faults": {do: func(p *player, _ []int) (string, error) { return row(p.Faults()), nil }},
		"cells":  {do: func(p *player, _ []int) (string, error) { return row(p.Cells()), nil }},
		"done":   {numbers: 1, do: func(p *player, n []int) (string, error) { return yes(p.Done(n[0])), nil }},
		"walk":   {numbers: 1, do: all},
		"reset":  {do: func(p *player, _ []int) (string, error) { return "ok", p.reset() }},
	}
}

func register(p *player, n []int) (string, error) {
	v, err := p.Reg(n[0], n[1])
	return row(v), err
}

func marks(p *player) string {
	var parts []string
	for _, x := range p.Marks() {
		parts = append(parts, row(x.Thread)+":"+row(x.N))
	}
	if len(parts) == 0 {
		return "nothing"
	}
	return strings.Join(parts, " ")
}

func yes(is bool) string {
	if is {
		return "yes"
	}
	return "no"
}

// all ways from the beginning on, wherever the machine is.
func all(p *player, n []int) (string, error) {
	told, err := walk.All(p.start, p.codes, n[0])
	if err != nil {
		return "", err
	}
	if told.Fault {
		return "fault " + row(told.Way...), nil
	}
	return row(told.States, told.Ends), nil
}

// row of numbers, with blanks between.
func row(numbers ...int) string {
	parts := make([]string, len(numbers))
	for i, n := range numbers {
		parts[i] = strconv.Itoa(n)
	}
	return strings.Join(parts, " ")
}
