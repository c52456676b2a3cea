package fetch

import (
	"slices"

	"trishaw/api"
	"trishaw/street"
)

// quarter is a number of corners, and the one-way streets between them.
type quarter struct {
	n       int
	streets []api.Pair
}

// all returns the set of all corners.
func (q quarter) all() int { return 1<<q.n - 1 }

// has reports whether a set has a corner or a street.
func has(set, x int) bool { return set>>x&1 == 1 }

// members returns what a set has, ascending.
func members(set int) []int {
	var list []int
	for x := 0; set>>x > 0; x++ {
		if has(set, x) {
			list = append(list, x)
		}
	}
	return list
}

// turned returns the quarter with all streets turned around.
func (q quarter) turned() quarter {
	streets := make([]api.Pair, len(q.streets))
	for i, s := range q.streets {
		streets[i] = street.Turned(s)
	}
	return quarter{q.n, streets}
}

// both returns the streets, and after them those that are listed, turned around.
func (q quarter) both(list []int) []api.Pair {
	streets := slices.Clone(q.streets)
	for _, i := range list {
		streets = append(streets, street.Turned(q.streets[i]))
	}
	return streets
}

// walker returns a function that walks from a corner to all that can be reached from it, and returns the set of all corners that it has met so far.
func (q quarter) walker() func(corner int) int {
	met := 0
	var walk func(corner int) int
	walk = func(corner int) int {
		if has(met, corner) {
			return met
		}
		met |= 1 << corner
		for _, s := range q.streets {
			if s.A == corner {
				walk(s.B)
			}
		}
		return met
	}
	return walk
}

// isConnected reports whether all corners can be reached if the directions of the streets play no part.
func (q quarter) isConnected() bool {
	streets := slices.Concat(q.streets, q.turned().streets)
	walk := quarter{q.n, streets}.walker()
	return walk(0) == q.all()
}

// parts returns the largest sets of corners that can all be reached from each other.
func (q quarter) parts() [][]int {
	var parts [][]int
	turned := q.turned()
	done := 0
	for corner := range q.n {
		if has(done, corner) {
			continue
		}
		to, from := q.walker(), turned.walker()
		part := to(corner) & from(corner)
		parts = append(parts, members(part))
		done |= part
	}
	return parts
}

// isStrong reports whether every corner can be reached from every other one.
func (q quarter) isStrong() bool { return len(q.parts()) == 1 }
