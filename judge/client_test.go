package judge

import (
	"errors"
	"math"
	"slices"
	"testing"

	"quiescent/api"
	"quiescent/client"
	"quiescent/plain"
	"quiescent/walk"
)

const enough = 3000 // states of the clients that are not large

// clients, each with its kind of verdict, in each flavour.
func clients() map[string][][]api.Op {
	return map[string][][]api.Op{
		"safe: nothing":       clientOf(""),
		"safe: a reader":      clientOf("enter read leave"),
		"safe: a wait":        clientOf("enter read leave", "put5 wait drop"),
		"safe: a flush":       clientOf("put5 flush drop", "enter read leave"),
		"safe: nobody reads":  clientOf("put5 drop", "put6 drop"),
		"safe: all is kept":   clientOf("put5 later", "enter read leave"),
		"fault: no wait":      clientOf("enter read leave", "put5 drop"),
		"fault: a late wait":  clientOf("put5 drop wait", "enter read leave"),
		"fault: a rest":       clientOf("enter read leave", "put5 rest drop"),
		"fault: the first":    clientOf("enter read leave", "put5 drop put6 wait drop"),
		"fault: three":        clientOf("", "enter read leave", "put5 drop"),
		"large: many readers": clientOf("enter read leave", "enter read leave", "enter read leave", "enter read leave", "put5 wait drop"),
	}
}

// kindOf a client's name.
func kindOf(name string) string { return name[:slices.Index([]byte(name), ':')] }

// P110: a verdict of each kind, with what walk tells.
func TestClient(t *testing.T) {
	for name, l := range clients() {
		for _, f := range flavours() {
			got, err := Client(f, l, enough)
			s, codes, _ := client.Build(f, l)
			told, _ := walk.All(s, codes, enough) // with its error it is zero, as a verdict `large` is
			want := Verdict{Kind: kindOf(name), States: told.States, Way: told.Way}
			if !sameVerdict(got, want) || err != nil {
				t.Error(f, name, got, err, "want", want)
			}
			if (got.Kind == "fault") != (len(got.Way) > 0) || (got.Kind == "large") != (got.States == 0) {
				t.Error(f, name, got)
			}
		}
	}
}

// P110: `large` is one state more than most, ahead of a fault or without one.
func TestLarge(t *testing.T) {
	for name, l := range clients() {
		for _, f := range flavours() {
			want, _ := Client(f, l, enough)
			if want.Kind == "large" {
				continue
			}
			for _, most := range []int{want.States, want.States + 1} {
				if got, err := Client(f, l, most); !sameVerdict(got, want) || err != nil {
					t.Error(f, name, most, got, err, "want", want)
				}
			}
			for _, most := range []int{1, want.States / 2, want.States - 1} {
				if most < 1 || most == want.States { // there may be one state alone
					continue
				}
				if got, err := Client(f, l, most); !sameVerdict(got, Verdict{Kind: "large"}) || err != nil {
					t.Error(f, name, most, got, err)
				}
			}
		}
	}
}

// P110: as many states as may be are gone through, where most tells so.
func TestMaxStates(t *testing.T) {
	l := clientOf("enter read leave", "enter read leave", "put5 wait drop")
	small, err := Client(api.Counted, l, enough)
	if small.Kind != "large" || err != nil {
		t.Error(small, err)
	}
	v, err := Client(api.Counted, l, api.MaxStates)
	if v.Kind != "safe" || v.States <= enough || err != nil {
		t.Error(v, err)
	}
}

// wrong clients and flavours, each with client.Build's error.
func wrong() []struct {
	f    int
	l    [][]api.Op
	want error
	at   int
} {
	return []struct {
		f    int
		l    [][]api.Op
		want error
		at   int
	}{
		{1, nil, api.ErrBound, -1},
		{1, [][]api.Op{}, api.ErrBound, -1},
		{1, make([][]api.Op, api.MaxThreads+1), api.ErrBound, -1},
		{1, [][]api.Op{slices.Repeat(clientOf("wait")[0], api.MaxOps+1)}, api.ErrBound, -1},
		{1, clientOf("", "what"), api.ErrShape, 1},
		{2, clientOf("rest1"), api.ErrShape, 0},
		{2, clientOf("", "", "put1001"), api.ErrBound, 2},
		{3, clientOf("enter"), api.ErrHeld, 0},
		{4, clientOf("enter leave", "put5 put6"), api.ErrHeld, 1},
		{4, clientOf("drop"), api.ErrNone, 0},
		{0, clientOf("drop"), api.ErrNone, 0},
		{0, clientOf("wait"), api.ErrBound, -1},
		{5, clientOf("wait"), api.ErrBound, -1},
		{-1, clientOf("wait"), api.ErrBound, -1},
		{math.MinInt, clientOf(""), api.ErrBound, -1},
		{math.MaxInt, clientOf(""), api.ErrBound, -1},
		{1<<32 + 1, clientOf(""), api.ErrBound, -1},
	}
}

func wantErr(t *testing.T, err, want error, at int) {
	t.Helper()
	var f *api.Fault
	wantCode, _ := plain.Code(want)
	if c, place := plain.Code(err); c != wantCode || place != at || errors.As(err, &f) != (at >= 0) {
		t.Error(err, "at", place, "want", want, "at", at)
	}
}

// P110: client.Build's errors come first; nothing with them.
func TestClientErrors(t *testing.T) {
	for _, c := range wrong() {
		for _, most := range []int{-1, 0, 1, 1000, api.MaxStates, api.MaxStates + 1} {
			v, err := Client(c.f, c.l, most)
			wantErr(t, err, c.want, c.at)
			if !sameVerdict(v, Verdict{}) {
				t.Error(c, v)
			}
		}
	}
}

// P110: most is from 1 to MaxStates.
func TestMost(t *testing.T) {
	for name, l := range clients() {
		for _, most := range []int{math.MinInt, -1, 0, api.MaxStates + 1, math.MaxInt} {
			v, err := Client(api.Fenced, l, most)
			wantErr(t, err, api.ErrBound, -1)
			if !sameVerdict(v, Verdict{}) {
				t.Error(name, most, v)
			}
		}
	}
}

// P4: a client is only read, and a way is new each time.
func TestClientMemory(t *testing.T) {
	l := clientOf("enter read leave", "put5 drop")
	first, _ := Client(api.Fenced, l, enough)
	was := slices.Clone(first.Way)
	clear(first.Way)
	if again, _ := Client(api.Fenced, l, enough); !slices.Equal(again.Way, was) {
		t.Error(again.Way, was)
	}
	for i, ops := range clientOf("enter read leave", "put5 drop") {
		if !slices.Equal(l[i], ops) {
			t.Error(l)
		}
	}
}
