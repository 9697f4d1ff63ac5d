package grace

import "quiescent/api"

// flavour of grace: it tells where it is not as the others are.
type flavour int

func (f flavour) check() error {
	if f < api.Fenced || f > api.Joined {
		return api.ErrBound
	}
	return nil
}

// forces: readers have no fence of their own, those who wait force it.
func (f flavour) forces() bool { return f == api.Forced }

// counts: readers show rests, not sections.
func (f flavour) counts() bool { return f == api.Counted }

// joins: own cells are linked by code.
func (f flavour) joins() bool { return f == api.Joined }

// fence behind which a section that has found what was there ahead of it is shown.
func (f flavour) fence() string {
	if f.forces() {
		return "force"
	}
	return "fence"
}
