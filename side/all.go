package side

import "sync"

// made by a worker of a number.
type made[T any] struct {
	number int
	what   T
}

// all that work makes of the numbers below n, in their order: by so many workers side by side. When it answers, none of them is there any more.
func all[T any](n, workers int, work func(number int) T) []T {
	numbers, results := make(chan int), make(chan made[T])
	var group sync.WaitGroup
	for range min(n, workers) {
		group.Add(1)
		go func() {
			defer group.Done()
			for number := range numbers {
				results <- made[T]{number: number, what: work(number)}
			}
		}()
	}
	l := exchange(n, numbers, results)
	close(numbers)
	group.Wait()
	return l
}

// exchange the numbers below n, one by one, for what is made of them. Both go by one select, as a worker that has made something takes no other number ahead of sending it.
func exchange[T any](n int, numbers chan<- int, results <-chan made[T]) []T {
	l := make([]T, n)
	next := 0
	for got := 0; got < n; {
		open := numbers
		if next == n {
			open = nil // nothing is ever sent through it: what is out is waited for alone
		}
		select {
		case open <- next:
			next++
		case r := <-results:
			l[r.number] = r.what
			got++
		}
	}
	return l
}
