package walk

import (
	"slices"

	"quiescent/api"
	"quiescent/mach"
)

// search of all states, breadth-first.
type search struct {
	numbers int                   // that are tried from each state on: 0, 1, ..
	most    int                   // states that may be found
	found   map[string]step       // by its key, how each state was found first
	ahead   []*mach.Machine       // a machine in each state from which nothing was tried yet
	see     func(m *mach.Machine) // is shown each state when it is found
}

// step by which a state was found: the key of the one before it, empty at the beginning, and the number.
type step struct {
	from   string
	number int
}

func newSearch(numbers, most int, see func(m *mach.Machine)) *search {
	return &search{numbers: numbers, most: most, found: map[string]step{}, see: see}
}

// run from the first state on. It tells the way to a fault, nil if there is none.
func (s *search) run(first *mach.Machine) ([]int, error) {
	if err := s.add(first, step{}); err != nil {
		return nil, err
	}
	for len(s.ahead) > 0 {
		m := s.ahead[0]
		s.ahead[0] = nil // else the list would keep all machines to its end
		s.ahead = s.ahead[1:]
		if way, err := s.spread(m); way != nil || err != nil {
			return way, err
		}
	}
	return nil, nil
}

// spread tries all numbers from a state on, up to a fault: then it tells the way to it.
func (s *search) spread(m *mach.Machine) ([]int, error) {
	from := key(m)
	next := m.Copy()
	for n := range s.numbers {
		if next.Run([]int{n}) == 0 { // what has an error changes nothing, so that it is a copy still
			continue
		}
		by := step{from: from, number: n}
		if next.Faults() > 0 {
			return s.way(by), nil
		}
		if err := s.add(next, by); err != nil {
			return nil, err
		}
		next = m.Copy()
	}
	return nil, nil
}

// add a state, if it is a new one.
func (s *search) add(m *mach.Machine, by step) error {
	k := key(m)
	if _, there := s.found[k]; there {
		return nil
	}
	if len(s.found) == s.most {
		return api.ErrBound
	}
	s.found[k] = by
	s.ahead = append(s.ahead, m)
	s.see(m)
	return nil
}

// way from the beginning on, up to a last step.
func (s *search) way(last step) []int {
	var way []int
	for by := last; by.from != ""; by = s.found[by.from] {
		way = append(way, by.number)
	}
	slices.Reverse(way)
	return way
}

// key of a machine's state: its numbers, seven bits to a byte, each byte but a number's last one with its high bit set. So no two rows of numbers have the same key.
func key(m *mach.Machine) string {
	var b []byte
	for _, n := range m.State() {
		for ; n >= 128; n /= 128 {
			b = append(b, byte(128+n%128))
		}
		b = append(b, byte(n))
	}
	return string(b)
}
