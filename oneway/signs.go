package oneway

import (
	"iter"
	"slices"
	"sync"

	"trishaw/api"
	"trishaw/street"
)

// allSigns yields all signs of many streets, the lesser ones first.
func allSigns(many int) iter.Seq[string] { return someSigns(many, 0, 1<<many) }

// someSigns yields the signs of many streets from one place among all of them up to another one, which is left out.
func someSigns(many, first, end int) iter.Seq[string] {
	return func(yield func(string) bool) {
		signs := make([]byte, many)
		for place := first; place < end; place++ {
			for i := range signs {
				signs[i] = '<'
				if has(place, many-1-i) {
					signs[i] = '>'
				}
			}
			if !yield(string(signs)) {
				return
			}
		}
	}
}

// along returns the streets, each of them turned where it leads from B to A by the signs.
func along(streets []api.Pair, signs string) []api.Pair {
	ways := slices.Clone(streets)
	for i := range len(signs) {
		if signs[i] == '<' {
			ways[i] = street.Turned(ways[i])
		}
	}
	return ways
}

// tally is how many signs are strong, and how many are without rounds.
type tally struct{ strong, loose int }

// add adds what was counted elsewhere.
func (t *tally) add(other tally) {
	t.strong += other.strong
	t.loose += other.loose
}

// count counts some signs.
func count(n int, streets []api.Pair, some iter.Seq[string]) tally {
	var counted tally
	for signs := range some {
		ways := along(streets, signs)
		if isStrong(n, ways) {
			counted.strong++
		}
		if isLoose(n, ways) {
			counted.loose++
		}
	}
	return counted
}

// countAll counts all signs, each half of them in a goroutine of its own.
func countAll(n int, streets []api.Pair) tally {
	many := len(streets)
	end := 1 << many
	middle := end / 2
	halves := []iter.Seq[string]{someSigns(many, 0, middle), someSigns(many, middle, end)}
	counted := make(chan tally, len(halves))
	var counting sync.WaitGroup
	for _, half := range halves {
		counting.Add(1)
		go func() {
			defer counting.Done()
			counted <- count(n, streets, half)
		}()
	}
	counting.Wait()
	close(counted)
	var sum tally
	for part := range counted {
		sum.add(part)
	}
	return sum
}
