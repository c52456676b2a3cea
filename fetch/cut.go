package fetch

import (
	"math/bits"
)

// cut is the set of corners of a cut, and the set of its streets.
type cut struct{ corners, streets int }

// leaving returns the streets that lead out of a set of corners.
func (q quarter) leaving(set int) int {
	streets := 0
	for i, s := range q.streets {
		if has(set, s.A) && !has(set, s.B) {
			streets |= 1 << i
		}
	}
	return streets
}

// isCut reports whether a number is a cut.
func (q quarter) isCut(set int) bool {
	return set > 0 && set < q.all() && q.leaving(q.all()&^set) == 0
}

// cuts returns all cuts in ascending order.
func (q quarter) cuts() []cut {
	var cuts []cut
	for set := range q.all() {
		if q.isCut(set) {
			cuts = append(cuts, cut{set, q.leaving(set)})
		}
	}
	return cuts
}

// smallest returns the first one of the cuts with the fewest streets and how many these are, or 0 and 0 if there are no cuts.
func smallest(cuts []cut) (many, set int) {
	for _, c := range cuts {
		if size := bits.OnesCount(uint(c.streets)); set == 0 || size < many {
			many, set = size, c.corners
		}
	}
	return many, set
}

// areApart reports whether a list consists of cuts of which no two have a common street.
func (q quarter) areApart(list []int) bool {
	taken := 0
	for _, set := range list {
		streets := q.leaving(set)
		if !q.isCut(set) || taken&streets != 0 {
			return false
		}
		taken |= streets
	}
	return true
}

// packer returns a function that returns how many cuts that are apart there are at most beside the streets that are taken, and remembers it.
func packer(cuts []cut) func(taken int) int {
	known := map[int]int{}
	var most func(taken int) int
	most = func(taken int) int {
		if many, ok := known[taken]; ok {
			return many
		}
		many := 0
		for _, c := range cuts {
			if taken&c.streets == 0 {
				many = max(many, 1+most(taken|c.streets))
			}
		}
		known[taken] = many
		return many
	}
	return most
}

// apart returns the first one of the longest lists of cuts that are apart.
func apart(cuts []cut) []int {
	most := packer(cuts)
	var list []int
	taken := 0
	// A cut that is passed over is in no longest list that begins in this way, so none of them is missed later.
	for _, c := range cuts {
		if taken&c.streets == 0 && 1+most(taken|c.streets) == most(taken) {
			list = append(list, c.corners)
			taken |= c.streets
		}
	}
	return list
}
