package oneway

import (
	"slices"

	"trishaw/api"
)

// search looks for trips that end at goals. The way k is the street k modulo streets, which it leads along from A to B.
type search struct {
	ways    []api.Pair
	streets int
	goals   int
}

// trip returns a list followed by the first list of streets, of those that are left, that leads from a corner over different corners, none of them in passed, to a goal; nil if there is none.
func (s search) trip(list []int, at, left, passed int) []int {
	for k, w := range s.ways {
		street := k % s.streets
		if w.A != at || !has(left, street) {
			continue
		}
		longer := append(list, street)
		if has(s.goals, w.B) {
			return longer
		}
		if has(passed, w.B) {
			continue
		}
		if found := s.trip(longer, w.B, left&^(1<<street), passed|1<<w.B); found != nil {
			return found
		}
	}
	return nil
}

// round returns the first round trip along the streets that are left, nil if there is none.
func round(n int, ways []api.Pair, left int) []int {
	var first []int
	for from := range n {
		s := search{ways, len(ways), 1 << from}
		list := s.trip(nil, from, left, s.goals)
		if list != nil && (first == nil || slices.Compare(list, first) < 0) {
			first = list
		}
	}
	return first
}

// split divides streets into round trips, and reports whether they can be divided so.
func split(n int, ways []api.Pair, left int) ([][]int, bool) {
	var rounds [][]int
	for left != 0 {
		list := round(n, ways, left)
		if list == nil {
			return nil, false
		}
		rounds = append(rounds, list)
		for _, i := range list {
			left &^= 1 << i
		}
	}
	return rounds, true
}

// different returns the set of the streets that have different signs.
func different(a, b string) int {
	set := 0
	for i := range len(a) {
		if a[i] != b[i] {
			set |= 1 << i
		}
	}
	return set
}
