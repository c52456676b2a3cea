package shift

import (
	"sort"

	"trishaw/api"
)

// clock is the needs of each hour, and how long a shift is.
type clock struct {
	needs []int
	long  int
}

// around returns the hour of the clock that any number is.
func (c clock) around(hour int) int {
	hours := len(c.needs)
	return (hour%hours + hours) % hours
}

// spare returns by how many drivers a plan exceeds each need.
func (c clock) spare(plan []int) []int {
	spare := make([]int, len(plan))
	for hour, need := range c.needs {
		spare[hour] -= need
		for later := range c.long {
			spare[c.around(hour+later)] += plan[hour]
		}
	}
	return spare
}

// reach returns how many elements of a proof lie in one shift at most.
func (c clock) reach(proof []int) int {
	reach := 0
	for start := range c.needs {
		many := 0
		for _, hour := range proof {
			if c.around(hour-start) < c.long {
				many++
			}
		}
		reach = max(reach, many)
	}
	return reach
}

// worth returns the needs of all elements of a proof divided by its reach, rounded up.
func (c clock) worth(proof []int) int {
	needed := 0
	for _, hour := range proof {
		needed += c.needs[hour]
	}
	reach := c.reach(proof)
	return (needed + reach - 1) / reach
}

// least returns the least total with which a plan can be enough.
func (c clock) least() int {
	return sort.Search(sum(c.needs), func(size int) bool { return trial{c, size}.succeeds() })
}

// share returns the least total if drivers can be divided.
func (c clock) share() api.Ratio {
	// Divided by the number of its rounds, the needs on a ring give the least total. A ring has no more steps
	// than there are hours, and no step is longer than a shift, so it has at most long rounds. The first number that
	// gives the least total gives it in lowest terms.
	best := api.Ratio{Num: c.least(), Den: 1}
	for den := 2; den <= c.long; den++ {
		if num := c.times(den).least(); num*best.Den < best.Num*den {
			best = api.Ratio{Num: num, Den: den}
		}
	}
	return best
}

// times returns the clock with all needs multiplied.
func (c clock) times(by int) clock {
	needs := make([]int, len(c.needs))
	for hour, need := range c.needs {
		needs[hour] = need * by
	}
	return clock{needs, c.long}
}

func sum(list []int) int {
	total := 0
	for _, x := range list {
		total += x
	}
	return total
}
