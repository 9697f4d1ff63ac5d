package grace

import (
	"strconv"

	"quiescent/api"
)

// lines of code that is put together. Its labels begin with p, and are counted.
type lines struct {
	p      string
	labels int
	code   []api.Instr
}

// do adds an instruction with these numbers.
func (l *lines) do(op string, numbers ...int) { l.to("", op, numbers...) }

// to adds one with a label, too.
func (l *lines) to(label, op string, numbers ...int) {
	var n [3]int
	copy(n[:], numbers)
	l.code = append(l.code, api.Instr{Op: op, A: n[0], B: n[1], C: n[2], To: label})
}

func (l *lines) fresh() string {
	l.labels++
	return l.p + strconv.Itoa(l.labels)
}

// block of what body adds, with a label behind it.
func (l *lines) block(body func(end string)) {
	end := l.fresh()
	body(end)
	l.to(end, "label")
}

// loop of what body adds, with a label ahead of it.
func (l *lines) loop(body func(again string)) {
	again := l.fresh()
	l.to(again, "label")
	body(again)
}
