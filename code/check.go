package code

import "quiescent/api"

// check tells what is wrong with the instruction at that place, where the labels are set so.
func check(x api.Instr, at int, set map[string]int) error {
	k, ok := kindOf(x.Op)
	if !ok || !k.fits(x) {
		return api.ErrShape
	}
	if !k.within(x) {
		return api.ErrBound
	}
	if !k.to {
		return nil
	}
	first, there := set[x.To]
	if !IsName(x.To) || x.Op == "label" && first != at {
		return api.ErrName
	}
	if !there {
		return api.ErrNone
	}
	return nil
}

// Labels tells where each label is set first: it may stand behind what goes to it.
func Labels(l []api.Instr) map[string]int {
	set := map[string]int{}
	for i, x := range l {
		if _, there := set[x.To]; x.Op == "label" && !there {
			set[x.To] = i
		}
	}
	return set
}

// IsName tells if a label may be called so.
func IsName(s string) bool {
	if s == "" || len(s) > api.MaxName || !isSmall(s[0]) {
		return false
	}
	for _, b := range []byte(s) {
		if !isSmall(b) && (b < '0' || b > '9') && b != '.' {
			return false
		}
	}
	return true
}

func isSmall(b byte) bool { return b >= 'a' && b <= 'z' }
