package judge

import (
	"math"
	"slices"
	"testing"

	"quiescent/api"
)

func wantReplay(t *testing.T, f int, l [][]api.Op, way []int, want bool) {
	t.Helper()
	if is, err := Replay(f, l, way); is != want || err != nil {
		t.Errorf("%d %v: %.100v: %v, %v", f, l, way, is, err)
	}
}

// P110: a fault comes by a verdict's way, at its last number, and stays.
func TestReplay(t *testing.T) {
	for name, l := range clients() {
		for _, f := range flavours() {
			v, _ := Client(f, l, enough)
			for n := range v.Way {
				wantReplay(t, f, l, v.Way[:n], false)
			}
			wantReplay(t, f, l, v.Way, v.Kind == "fault")
			wantReplay(t, f, l, slices.Concat(v.Way, v.Way, []int{-1, 7}), v.Kind == "fault")
			if t.Failed() {
				t.Fatal(f, name)
			}
		}
	}
}

// P110: a way is a script as any other one: numbers go round, and what has an error is passed over.
func TestReplayRound(t *testing.T) {
	l := clientOf("enter read leave", "put5 drop")
	for _, f := range flavours() {
		v, _ := Client(f, l, enough)
		for i, add := range []int{4, -4, 400, -400, 1 << 40, -1 << 40} {
			way := slices.Clone(v.Way)
			for n := range way {
				way[n] += add * (n % (i + 1))
			}
			wantReplay(t, f, l, way, true)
		}
		wantReplay(t, f, l, append([]int{2, 3, -1, -2}, v.Way...), true) // nothing waits at the beginning
		wantReplay(t, f, l, nil, false)
		wantReplay(t, f, l, []int{}, false)
		wantReplay(t, f, l, []int{math.MinInt, math.MaxInt}, false)
		wantReplay(t, f, l, slices.Repeat([]int{0}, 5000), false) // the reader alone
		wantReplay(t, f, l, slices.Repeat([]int{1}, 5000), false)
	}
}

// P110: no number behind MaxSteps is done.
func TestReplaySteps(t *testing.T) {
	l := clientOf("enter read leave", "put5 drop")
	v, _ := Client(api.Forced, l, enough)
	nothing := func(n int) []int { return slices.Repeat([]int{2}, n) }
	wantReplay(t, api.Forced, l, append(nothing(api.MaxSteps-len(v.Way)), v.Way...), true)
	wantReplay(t, api.Forced, l, append(nothing(api.MaxSteps-len(v.Way)+1), v.Way...), false)
	wantReplay(t, api.Forced, l, append(slices.Clone(v.Way), nothing(3*api.MaxSteps)...), true)
}

// P110: client.Build's errors; nothing with them.
func TestReplayErrors(t *testing.T) {
	for _, c := range wrong() {
		for _, way := range [][]int{nil, {0, 1}, slices.Repeat([]int{0, 1}, api.MaxSteps)} {
			is, err := Replay(c.f, c.l, way)
			wantErr(t, err, c.want, c.at)
			if is {
				t.Error(c, is)
			}
		}
	}
}

// P4: a way is only read.
func TestReplayMemory(t *testing.T) {
	way := []int{-7, 1 << 40, 3, 2, 1, 0}
	was := slices.Clone(way)
	wantReplay(t, api.Joined, clientOf("enter read leave", "put5 drop"), way, false)
	if !slices.Equal(way, was) {
		t.Error(way)
	}
}
