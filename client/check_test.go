package client

import (
	"errors"
	"math"
	"slices"
	"strings"
	"testing"

	"quiescent/api"
	"quiescent/plain"
)

// wantError of Check and of all that have it, too.
func wantError(t *testing.T, l [][]api.Op, want error, at int) {
	t.Helper()
	wantCode, _ := plain.Code(want)
	safe, e1 := Safe(l)
	s, codes, e2 := Build(api.Fenced, l)
	for _, err := range []error{Check(l), e1, e2} {
		if c, place := plain.Code(err); c != wantCode || place != at {
			t.Errorf("%.200v: error %v at %d, not %v at %d", l, err, place, want, at)
		}
	}
	if want != nil && (safe || s.Cells != 0 || len(s.Init)+len(s.Regs)+len(codes) > 0) {
		t.Errorf("%.200v: with an error: %v, %v, %v", l, safe, s, codes)
	}
}

// P81: what one thread may not do; of several errors the first op's, and of one op's the first.
func TestErrors(t *testing.T) {
	for words, want := range map[string]error{
		"":            nil,
		"enter leave": nil,
		"enter enter read leave read leave rest wait flush": nil,
		"put1 put5":                  api.ErrHeld,
		"put1":                       nil,
		"put1000 wait drop":          nil,
		"put5 drop put6 later put7":  nil,
		"put5 enter drop leave":      nil, // only what is named may not be within a section
		"put5 enter later leave put": api.ErrBound,
		"flush":                      nil,
		"what":                       api.ErrShape,
		"enter what":                 api.ErrShape,
		"what0":                      api.ErrShape,
		"what7":                      api.ErrShape,
		"Enter":                      api.ErrShape,
		"enter1":                     api.ErrShape,
		"leave1":                     api.ErrShape,
		"rest-1":                     api.ErrShape,
		"wait1":                      api.ErrShape,
		"read1":                      api.ErrShape,
		"drop1":                      api.ErrShape,
		"later1":                     api.ErrShape,
		"flush1":                     api.ErrShape,
		"put":                        api.ErrBound,
		"put-1":                      api.ErrBound,
		"put1001":                    api.ErrBound,
		"enter put0 leave":           api.ErrBound,
		"put5 put0":                  api.ErrBound,
		"leave":                      api.ErrHeld,
		"enter leave leave":          api.ErrHeld,
		"enter":                      api.ErrHeld,
		"enter enter leave":          api.ErrHeld,
		"enter rest leave":           api.ErrHeld,
		"enter wait leave":           api.ErrHeld,
		"enter put5 leave":           api.ErrHeld,
		"enter flush leave":          api.ErrHeld,
		"enter enter leave rest":     api.ErrHeld,
		"read":                       api.ErrHeld,
		"enter leave read":           api.ErrHeld,
		"drop":                       api.ErrNone,
		"later":                      api.ErrNone,
		"wait drop":                  api.ErrNone,
		"put5 drop drop":             api.ErrNone,
		"put5 drop later":            api.ErrNone,
		"put5 later drop":            api.ErrNone,
		"put5 later later":           api.ErrNone,
		"put5 later flush drop":      api.ErrNone,
		"put5 flush put6":            api.ErrHeld, // what is retired is not on the list yet
		"enter drop":                 api.ErrNone, // the section is told last
		"enter read drop1":           api.ErrShape,
		"drop what":                  api.ErrNone,
		"leave what":                 api.ErrHeld,
		"leave put0":                 api.ErrHeld,
	} {
		at := -1
		if want != nil {
			at = 0
		}
		wantError(t, clientOf(words), want, at)
	}
}

// P81: texts that are no kind.
func TestNoKind(t *testing.T) {
	for _, kind := range []string{"", " ", "enter ", " enter", "ENTER", "enter\n", "enter\x00", "ente", "enters", "put5", "pop", "push", "\xff", "ä", strings.Repeat("enter", 1<<16)} {
		for _, n := range []int{0, 1, 5, math.MinInt} {
			wantError(t, [][]api.Op{{{Kind: kind, N: n}}}, api.ErrShape, 0)
		}
	}
}

// P81: numbers far off.
func TestNumbers(t *testing.T) {
	for _, n := range []int{math.MinInt, math.MinInt + 1, -1 << 32, -1000, 1001, 1 << 32, 1<<32 + 5, math.MaxInt} {
		wantError(t, [][]api.Op{{{Kind: "put", N: n}}}, api.ErrBound, 0)
		wantError(t, [][]api.Op{{{Kind: "rest", N: n}}}, api.ErrShape, 0)
	}
	for n := 1; n <= 1000; n++ {
		if err := Check([][]api.Op{{{Kind: "put", N: n}}}); err != nil {
			t.Error(n, err)
		}
	}
}

// P81: the first thread that has an error.
func TestPlaces(t *testing.T) {
	for _, c := range []struct {
		words []string
		want  error
		at    int
	}{
		{[]string{"", "enter"}, api.ErrHeld, 1},
		{[]string{"enter", "what"}, api.ErrHeld, 0},
		{[]string{"", "put0", "what"}, api.ErrBound, 1},
		{[]string{"put5", "put6", "put7", "put5 drop", "enter leave", "drop"}, api.ErrNone, 5}, // what is retired is each thread's own
		{[]string{"enter leave", "leave"}, api.ErrHeld, 1},                                     // so are sections
		{[]string{"put5", "drop"}, api.ErrNone, 1},
	} {
		wantError(t, clientOf(c.words...), c.want, c.at)
	}
}

// P81: how many threads and ops there may be, ahead of all else.
func TestBounds(t *testing.T) {
	rests := func(n int) []api.Op { return ops(strings.Repeat("rest ", n)) }
	wantError(t, make([][]api.Op, api.MaxThreads), nil, -1)
	wantError(t, slices.Repeat([][]api.Op{rests(api.MaxOps)}, api.MaxThreads), nil, -1)
	for _, l := range [][][]api.Op{
		nil, {}, make([][]api.Op, 0, 5), make([][]api.Op, api.MaxThreads+1), make([][]api.Op, 1<<16),
		{rests(api.MaxOps + 1)}, {nil, rests(api.MaxOps + 1)}, {ops("what"), rests(api.MaxOps + 1)}, {make([]api.Op, api.MaxOps+1)}, {nil, nil, make([]api.Op, 1<<16)},
		slices.Repeat([][]api.Op{ops("leave")}, api.MaxThreads+1),
	} {
		wantError(t, l, api.ErrBound, -1)
		if err := Check(l); err != api.ErrBound {
			t.Error("not bare:", err)
		}
	}
}

// model of P81: each op is asked by looking back at all that are ahead of it.
func model(words []string) (err error, safe bool) {
	safe = true
	deep, held, over := 0, false, false
	for i, word := range words {
		deep, held, over = before(words[:i])
		switch {
		case word == "what":
			return api.ErrShape, false
		case word == "put0":
			return api.ErrBound, false
		case deep == 0 && (word == "leave" || word == "read"), deep > 0 && slices.Contains([]string{"rest", "wait", "put5", "flush"}, word):
			return api.ErrHeld, false
		case !held && (word == "drop" || word == "later"):
			return api.ErrNone, false
		case held && word == "put5":
			return api.ErrHeld, false
		}
		safe = safe && (word != "drop" || over)
	}
	if deep, _, _ = before(words); deep > 0 {
		return api.ErrHeld, false
	}
	return nil, safe
}

// before tells of these words how many sections they leave open, if something is retired, and if they wait behind the last put.
func before(words []string) (deep int, held, over bool) {
	count := func(word string) int { return count(strings.Join(words, " "), word) }
	held = count("put5") > count("drop")+count("later")
	for _, word := range words {
		over = word != "put5" && (over || word == "wait" || word == "flush")
	}
	return count("enter") - count("leave"), held, over
}

// P81: all lists of at most 4 ops are told as by the model.
func TestAllLists(t *testing.T) {
	for _, words := range allLists(4, append(kinds(), "put0", "what")) {
		l := clientOf("", words)
		want, safe := model(strings.Fields(words))
		err := Check(l)
		var f *api.Fault
		if !errors.Is(err, want) || errors.As(err, &f) != (want != nil) || want != nil && (f.At != 1 || f.Err != want) {
			t.Errorf("%s: %v, not %v", words, err, want)
		}
		if ok, e := Safe(l); ok != safe || !errors.Is(e, want) {
			t.Errorf("%s: safe: %v, %v", words, ok, e)
		}
	}
}

// P81: which clients are safe.
func TestSafe(t *testing.T) {
	for words, want := range map[string]bool{
		"":                                   true,
		"enter read leave":                   true,
		"put5":                               true,
		"put5 wait drop":                     true,
		"put5 flush drop":                    true,
		"put5 drop":                          false,
		"put5 rest drop":                     false,
		"put5 drop wait":                     false,
		"wait put5 drop":                     false,
		"flush put5 drop":                    false,
		"put5 later":                         true,
		"put5 later flush":                   true,
		"put5 wait later":                    true,
		"put5 wait drop put6 drop":           false, // that one was behind another put
		"put5 drop put6 wait drop":           false,
		"put5 later wait put6 drop":          false,
		"put5 wait later put6 drop":          false,
		"put5 later put6 flush drop":         true,
		"put5 wait enter read leave drop":    true,
		"put5 wait enter drop leave":         true,
		"put5 wait rest wait rest wait drop": true,
		"put5 enter leave drop":              false,
	} {
		for _, other := range []string{"", "wait", "put6 wait drop", "enter read leave"} {
			for _, l := range [][][]api.Op{clientOf(words, other), clientOf(other, words)} {
				if safe, err := Safe(l); safe != want || err != nil {
					t.Error(l, safe, err)
				}
			}
		}
	}
	if safe, err := Safe(clientOf("put5 wait drop", "put5 drop", "put5 wait drop")); safe || err != nil {
		t.Error("another thread's wait is none of its own")
	}
}

// P4: what is handed over stays, and what lies behind a list's length is not read.
func TestHandedOver(t *testing.T) {
	whole := ops("put5 wait drop what leave")
	l := [][]api.Op{whole[:3], ops("enter read leave"), ops("what")}
	was := slices.Clone(whole)
	wantError(t, l[:2], nil, -1)
	if safe, err := Safe(l[:2]); !safe || err != nil {
		t.Error(safe, err)
	}
	if !slices.Equal(whole, was) || !slices.Equal(l[2], ops("what")) {
		t.Error("it is changed:", l)
	}
}
