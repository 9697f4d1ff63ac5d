package script

import (
	"strings"

	"quiescent/api"
	"quiescent/code"
	"quiescent/mach"
)

// maxDigits of a number in a line.
const maxDigits = 5

// player of a script: its machine, what that begins with, and the commands that it knows.
type player struct {
	*mach.Machine
	start    mach.Start
	codes    [][]api.Instr
	commands map[string]command
}

func newPlayer(codes [][]api.Instr) (*player, error) {
	p := &player{start: mach.Start{Cells: api.MaxCells}, codes: codes, commands: commands()}
	if err := p.reset(); err != nil {
		return nil, err
	}
	return p, nil
}

// reset is how the machine is made first, too, so that nothing can differ behind it.
func (p *player) reset() error {
	m, err := mach.New(p.start, p.codes)
	if err != nil {
		return err
	}
	p.Machine = m
	return nil
}

// answer to a line.
func (p *player) answer(line string) string {
	text, err := p.do(line)
	if err != nil {
		return mach.Bare(err).Error()
	}
	return text
}

// do what a line asks for.
func (p *player) do(line string) (string, error) {
	parts := strings.Split(line, " ")
	c, ok := p.commands[parts[0]]
	if !ok || !c.takes(len(parts)-1) {
		return "", api.ErrText
	}
	n, ok := numbers(parts[1:])
	if !ok {
		return "", api.ErrText
	}
	return c.do(p, n)
}

// numbers of their texts, if each is one.
func numbers(texts []string) ([]int, bool) {
	l := make([]int, len(texts))
	for i, text := range texts {
		n, ok := code.Number(text, maxDigits)
		if !ok {
			return nil, false
		}
		l[i] = n
	}
	return l, true
}
