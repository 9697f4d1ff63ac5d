package side

import (
	"runtime"
	"slices"
	"strconv"
	"sync"
	"sync/atomic"
	"testing"
	"time"

	"quiescent/api"
)

// P121: what is made stands in the numbers' order, each once, whoever is done first.
func TestAllInOrder(t *testing.T) {
	for n := range 3 * api.Workers {
		for workers := 1; workers <= api.Workers; workers++ {
			var works atomic.Int64
			got := all(n, workers, func(number int) string {
				works.Add(1)
				for range (n - number) % 5 {
					runtime.Gosched()
				}
				return strconv.Itoa(number)
			})
			if len(got) != n || int(works.Load()) != n {
				t.Fatal(n, workers, got, works.Load())
			}
			for number, s := range got {
				if s != strconv.Itoa(number) {
					t.Error(n, workers, got)
				}
			}
		}
	}
}

// wait for a channel that another worker closes, not for ever where there is none.
func wait(t *testing.T, c chan int) {
	select {
	case <-c:
	case <-time.After(5 * time.Second):
		t.Error("too few are at work")
	}
}

// P121: the last number's work ends first, if there are workers enough; it is the same.
func TestAllBackward(t *testing.T) {
	const n = api.Workers
	ends := make([]chan int, n+1)
	for i := range ends {
		ends[i] = make(chan int)
	}
	close(ends[n])
	got := all(n, n, func(number int) int {
		wait(t, ends[number+1])
		close(ends[number])
		return number * number
	})
	for number, v := range got {
		if v != number*number {
			t.Error(got)
		}
	}
}

// P120: as many as are asked for are at work at once, where there is work for them, and never more.
func TestAllAtOnce(t *testing.T) {
	for workers := 1; workers <= api.Workers; workers++ {
		var lock sync.Mutex
		busy, greatest := 0, 0
		together := make(chan int)
		all(3*workers, workers, func(number int) int {
			lock.Lock()
			if busy++; busy > greatest {
				greatest = busy
			}
			if busy == workers && number < workers { // the first ones wait for each other
				close(together)
			}
			lock.Unlock()
			wait(t, together)
			lock.Lock()
			busy--
			lock.Unlock()
			return 0
		})
		if greatest != workers || busy != 0 {
			t.Error(workers, greatest, busy)
		}
	}
}

// goneBy tells if there are no more goroutines than so many, or soon will be: one that is behind its last line may still be counted.
func goneBy(most int) bool {
	for range 2000 {
		if runtime.NumGoroutine() <= most {
			return true
		}
		time.Sleep(time.Millisecond)
	}
	return false
}

// P2: behind a call nobody is at work any more, with an error and without one.
func TestNobodyIsLeft(t *testing.T) {
	before := runtime.NumGoroutine()
	codes, l := codesOf(t, "const 0 1; mark 0", ""), clientOf("put5 drop", "enter read leave")
	for workers := range api.Workers + 2 {
		for _, n := range []int{0, 1, 5, longest, longest + 1} {
			all(min(n, longest), max(workers, 1), func(number int) int { return number })
			Runs(startOf(2), codes, make([][]int, n), workers)
			Runs(startOf(2), codesOf(t, "fence", "goto a; label a; fence")[:n%3], make([][]int, n), workers)
			Judge(slices.Repeat([]int{4}, n), l, 20, workers)
			Judge(slices.Repeat([]int{5}, n), l, 20, workers)
		}
		if !goneBy(before) {
			t.Fatal(workers, before, runtime.NumGoroutine())
		}
	}
}

// P2: many calls at once, which have all that they are given in common, answer what one does.
func TestCallsAtOnce(t *testing.T) {
	s, codes := startOf(2), codesOf(t, "swap 7 6 1; mark 7; store 6 6 2", "label a; load 0 6 1; mark 0; same 0 7 b; goto a; label b; free 7")
	scripts := slices.Repeat([][]int{{0, 1, 2, 1, 0, 3, 1}, nil, {1, 1, 0, 1, 1, 1, 1, -1, 1 << 40}}, 9)
	fs, l := slices.Repeat(flavours(), 2), clientOf("put5 drop", "enter read leave")
	runs, err := Runs(s, codes, scripts, 1)
	if err != nil {
		t.Fatal(err)
	}
	verdicts, err := Judge(fs, l, enough, 1)
	if err != nil {
		t.Fatal(err)
	}
	var group sync.WaitGroup
	for workers := 1; workers <= api.Workers; workers++ {
		group.Go(func() {
			if got, err := Runs(s, codes, scripts, workers); !slices.EqualFunc(got, runs, sameSeen) || err != nil {
				t.Error(workers, got, err)
			}
			if got, err := Judge(fs, l, enough, workers); !slices.EqualFunc(got, verdicts, sameVerdict) || err != nil {
				t.Error(workers, got, err)
			}
		})
	}
	group.Wait()
}
