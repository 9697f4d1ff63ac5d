package code

import (
	"strconv"
	"strings"

	"quiescent/api"
)

// maxDigits is enough for each word.
const maxDigits = 10

// line of an instruction that Check takes.
func line(x api.Instr) string {
	k, _ := kindOf(x.Op)
	parts := []string{x.Op}
	n := numbers(x)
	for i := range k.count() {
		parts = append(parts, strconv.Itoa(n[i]))
	}
	if k.to {
		parts = append(parts, x.To)
	}
	return strings.Join(parts, " ") + "\n"
}

// instruction of a line without its end: its numbers may be too great yet, its label none.
func instruction(text string) (api.Instr, bool) {
	parts := strings.Split(text, " ")
	k, ok := kindOf(parts[0])
	if !ok || len(parts) != k.parts() {
		return api.Instr{}, false
	}
	var n [3]int
	for i := range k.count() {
		if n[i], ok = Number(parts[1+i], maxDigits); !ok {
			return api.Instr{}, false
		}
	}
	x := api.Instr{Op: parts[0], A: n[0], B: n[1], C: n[2]}
	if k.to {
		x.To = parts[len(parts)-1]
	}
	return x, true
}

// Number of decimal digits, at most so many, without needless zeros. It is told back and held against its text, as Atoi takes signs and needless zeros, too.
func Number(s string, most int) (int, bool) {
	if len(s) > most {
		return 0, false
	}
	n, err := strconv.Atoi(s)
	if err != nil || n < 0 || strconv.Itoa(n) != s {
		return 0, false
	}
	return n, true
}
