package oneway

import (
	"trishaw/api"
)

// grown is what some ears leave: the corners that they have, and the streets that they do not have.
type grown struct{ corners, left int }

// bare returns what there is before the first ear.
func bare(streets []api.Pair) grown { return grown{1, 1<<len(streets) - 1} }

// whole reports whether n corners and all streets are in the ears.
func (g grown) whole(n int) bool { return g.corners == 1<<n-1 && g.left == 0 }

// add adds an ear.
func (g *grown) add(streets []api.Pair, ear []int) {
	for _, i := range ear {
		g.corners |= 1<<streets[i].A | 1<<streets[i].B
		g.left &^= 1 << i
	}
}

// next returns an ear that can be added, nil if there is none.
func (g grown) next(n int, streets []api.Pair) []int {
	s := search{bothWays(streets), len(streets), g.corners}
	for from := range n {
		if !has(g.corners, from) {
			continue
		}
		if ear := s.trip(nil, from, g.left, g.corners); ear != nil {
			return ear
		}
	}
	return nil
}

// ears returns ears, and whether there are any.
func ears(n int, streets []api.Pair) ([][]int, bool) {
	var all [][]int
	g := bare(streets)
	for ear := g.next(n, streets); ear != nil; ear = g.next(n, streets) {
		all = append(all, ear)
		g.add(streets, ear)
	}
	if !g.whole(n) {
		return nil, false
	}
	return all, true
}

// across returns the other corner of a street; -1 if it does not have this one.
func across(s api.Pair, corner int) int {
	switch corner {
	case s.A:
		return s.B
	case s.B:
		return s.A
	}
	return -1
}

// begin returns the corner where an ear that begins with a street begins; -1 if there is none.
func (g grown) begin(s api.Pair) int {
	switch {
	case has(g.corners, s.A):
		// If the other corner is there already too, the ear ends with this street, whichever way it is walked.
		return s.A
	case has(g.corners, s.B):
		return s.B
	}
	return -1
}

// fits reports whether a list is an ear that can be added.
func (g grown) fits(streets []api.Pair, ear []int) bool {
	at, left, passed := -1, g.left, g.corners
	for k, i := range ear {
		if i < 0 || !has(left, i) {
			return false
		}
		left &^= 1 << i
		if k == 0 {
			at = g.begin(streets[i])
		}
		at = across(streets[i], at)
		if at < 0 {
			return false
		}
		if k == len(ear)-1 {
			return has(g.corners, at)
		}
		if has(passed, at) {
			return false
		}
		passed |= 1 << at
	}
	return false
}

// areEars reports whether lists are ears of a quarter whose corners are all in them.
func areEars(n int, streets []api.Pair, lists [][]int) bool {
	g := bare(streets)
	for _, list := range lists {
		if !g.fits(streets, list) {
			return false
		}
		g.add(streets, list)
	}
	return g.whole(n)
}
