package arena

import "quiescent/api"

// Word of a ref.
func Word(r api.Ref) (int, error) {
	if r.Cell < 0 || r.Cell >= api.MaxCells || r.Gen < 0 {
		return 0, api.ErrBound
	}
	// Gen is held against its bound, as Gen times MaxCells may go round.
	if r.Gen > (MaxWord-1-r.Cell)/api.MaxCells {
		return 0, api.ErrBound
	}
	return r.Gen*api.MaxCells + r.Cell + 1, nil
}

// Ref of a word.
func Ref(n int) (api.Ref, error) {
	if n == 0 {
		return api.Ref{}, api.ErrNone
	}
	if !isWord(n) {
		return api.Ref{}, api.ErrBound
	}
	return api.Ref{Cell: (n - 1) % api.MaxCells, Gen: (n - 1) / api.MaxCells}, nil
}
