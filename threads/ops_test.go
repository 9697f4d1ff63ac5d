package threads

import (
	"errors"
	"math"
	"slices"
	"testing"

	"quiescent/api"
)

func put(n int) api.Op { return api.Op{Kind: "put", N: n} }

// An op's kind and number.
func TestShape(t *testing.T) {
	for _, c := range []struct {
		x    api.Op
		want error
	}{
		{put(1), nil}, {put(1000), nil}, {put(0), api.ErrBound}, {put(-1), api.ErrBound}, {put(1001), api.ErrBound}, {put(math.MinInt), api.ErrBound}, {put(math.MaxInt), api.ErrBound},
		{api.Op{Kind: "take"}, nil}, {api.Op{Kind: "rest"}, nil}, {api.Op{Kind: "take", N: 1}, api.ErrShape}, {api.Op{Kind: "rest", N: -1}, api.ErrShape},
		{api.Op{}, api.ErrShape}, {api.Op{N: 5}, api.ErrShape}, {api.Op{Kind: "tak"}, api.ErrShape}, {api.Op{Kind: "puts", N: 5}, api.ErrShape}, {api.Op{Kind: "Put", N: 5}, api.ErrShape},
	} {
		if err := Shape(c.x, "put", "take", "rest"); err != c.want {
			t.Error(c.x, err)
		}
	}
	if err := Shape(api.Op{Kind: "take"}, "put"); err != api.ErrShape {
		t.Error("there are no others:", err)
	}
}

// wantError with a place; -1: bare, or none.
func wantError(t *testing.T, err, want error, at int) {
	t.Helper()
	var f *api.Fault
	if at < 0 {
		if err != want {
			t.Error(err, "not", want)
		}
		return
	}
	if !errors.As(err, &f) || f.At != at || f.Err != want {
		t.Error(err, "not", want, "at", at)
	}
}

// The first thread's first op that is wrong; ahead of all how many there are.
func TestCheck(t *testing.T) {
	take, none := api.Op{Kind: "take"}, api.Op{Kind: "none"}
	for _, c := range []struct {
		l    [][]api.Op
		want error
		at   int
	}{
		{[][]api.Op{nil}, nil, -1},
		{[][]api.Op{{put(1), take}, {take, put(2), put(3)}, nil}, nil, -1},
		{[][]api.Op{{put(1), take}, {take, put(0), none}}, api.ErrBound, 1},
		{[][]api.Op{nil, nil, {none, put(0)}, {put(0)}}, api.ErrShape, 2},
		{nil, api.ErrBound, -1},
		{[][]api.Op{}, api.ErrBound, -1},
		{make([][]api.Op, api.MaxThreads), nil, -1},
		{make([][]api.Op, api.MaxThreads+1), api.ErrBound, -1},
		{slices.Repeat([][]api.Op{{none}}, api.MaxThreads+1), api.ErrBound, -1},
		{[][]api.Op{{none}, make([]api.Op, api.MaxOps+1)}, api.ErrBound, -1},
		{[][]api.Op{{none}, make([]api.Op, api.MaxOps)}, api.ErrShape, 0},
		{[][]api.Op{slices.Repeat([]api.Op{put(7)}, api.MaxOps)}, nil, -1},
	} {
		wantError(t, Check(c.l, "put", "take"), c.want, c.at)
	}
}

// Each is asked in turn, up to the first error, and not at all where there are too many.
func TestEach(t *testing.T) {
	asked := 0
	ask := func(ops []api.Op) error {
		asked++
		if len(ops) == 2 {
			return api.ErrHeld
		}
		return nil
	}
	two := make([]api.Op, 2)
	wantError(t, Each([][]api.Op{nil, two[:1], two, two, nil}, ask), api.ErrHeld, 2)
	if asked != 3 {
		t.Error(asked, "are asked")
	}
	wantError(t, Each(slices.Repeat([][]api.Op{two}, 7), ask), api.ErrBound, -1)
	wantError(t, Each([][]api.Op{nil, nil}, ask), nil, -1)
	if asked != 5 {
		t.Error(asked, "are asked")
	}
}
