package client

import (
	"strconv"

	"quiescent/api"
	"quiescent/arena"
	"quiescent/grace"
	"quiescent/mach"
)

// Cells at the beginning; behind them each thread has its own one.
const (
	firstCell = iota // what is published then
	rootCell         // its word 0 names what is published
	hubCell
	ownCells
)

// link of an own cell to the next one: a word.
const link = 1

// builder of a machine.
type builder struct {
	mach.Start
	flavour
	codes [][]api.Instr
}

// begin with the cells and registers of as many threads.
func (b *builder) begin(threads int) error {
	words, err := grace.Hub(int(b.flavour))
	if err != nil {
		return err
	}
	b.Cells = api.MaxCells
	b.cell(1)
	b.cell(name(firstCell))
	b.cell(words...)
	for t := range threads {
		if words, err = grace.Own(int(b.flavour)); err != nil {
			return err
		}
		b.cell(words...)
		b.Regs = append(b.Regs, registers(t))
	}
	return b.chain(threads)
}

// cell that is there, with these words first.
func (b *builder) cell(words ...int) {
	row := make([]int, api.Words)
	copy(row, words)
	b.Init = append(b.Init, row)
}

// chain the own cells, from the hub on, where code does not do it.
func (b *builder) chain(threads int) error {
	word, err := grace.Link(int(b.flavour))
	if err != nil || word < 0 {
		return err
	}
	last := hubCell
	for t := range threads {
		b.Init[last][word] = name(ownCells + t)
		last, word = ownCells+t, link
	}
	return nil
}

// thread that does these ops.
func (b *builder) thread(ops []api.Op) error {
	var parts []part
	for _, x := range ops {
		parts = append(parts, b.op(x))
	}
	parts = append(parts, b.piece(grace.Gone), named(stop()))
	var l []api.Instr
	for i, made := range parts {
		more, err := made("g" + strconv.Itoa(10+i)) // from 10 on they are as long as each other, so that none begins another one
		if err != nil {
			return err
		}
		l = append(l, more...)
	}
	b.codes = append(b.codes, l)
	return nil
}

// registers of a thread at the beginning.
func registers(t int) []int {
	row := make([]int, api.Registers)
	row[root], row[own], row[hub] = name(rootCell), name(ownCells+t), name(hubCell)
	return row
}

// name of a cell that is there at the beginning.
func name(cell int) int {
	n, _ := arena.Word(api.Ref{Cell: cell})
	return n
}
