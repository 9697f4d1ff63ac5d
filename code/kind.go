package code

import (
	"quiescent/api"
	"quiescent/arena"
)

// kind of an instruction: of each of its numbers, how many there are to choose from, from 0 on; behind its last one it is 0. And whether it has a label.
type kind struct {
	limits [3]int
	to     bool
}

func kindOf(op string) (kind, bool) {
	const register, place = api.Registers, api.Words
	switch op {
	case "const":
		return kind{limits: [3]int{register, arena.MaxWord + 1}}, true
	case "move":
		return kind{limits: [3]int{register, register}}, true
	case "add", "sub", "and", "xor":
		return kind{limits: [3]int{register, register, register}}, true
	case "load", "store", "swap":
		return kind{limits: [3]int{register, register, place}}, true
	case "cas": // it takes the register behind its second one, too
		return kind{limits: [3]int{register, register - 1, place}}, true
	case "alloc", "free", "mark", "need":
		return kind{limits: [3]int{register}}, true
	case "fence", "force", "stop":
		return kind{}, true
	case "zero":
		return kind{limits: [3]int{register}, to: true}, true
	case "same":
		return kind{limits: [3]int{register, register}, to: true}, true
	case "goto", "label":
		return kind{to: true}, true
	}
	return kind{}, false
}

// HasLabel tells if instructions of that name set a label, or go to one.
func HasLabel(op string) bool {
	k, _ := kindOf(op)
	return k.to
}

// fits tells if what the kind has not is zero.
func (k kind) fits(x api.Instr) bool {
	for i, n := range numbers(x) {
		if k.limits[i] == 0 && n != 0 {
			return false
		}
	}
	return k.to || x.To == ""
}

// within tells if the numbers that the kind has are within their bounds.
func (k kind) within(x api.Instr) bool {
	for i, n := range numbers(x) {
		if limit := k.limits[i]; limit > 0 && (n < 0 || n >= limit) {
			return false
		}
	}
	return true
}

// count of its numbers.
func (k kind) count() int {
	n := 0
	for _, limit := range k.limits {
		if limit > 0 {
			n++
		}
	}
	return n
}

// parts of its line: its name, its numbers, its label.
func (k kind) parts() int {
	if k.to {
		return k.count() + 2
	}
	return k.count() + 1
}

func numbers(x api.Instr) [3]int { return [3]int{x.A, x.B, x.C} }
