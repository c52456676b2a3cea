package fetch

import (
	"math/bits"
	"slices"
)

// meets reports whether a set of streets has at least one of every cut.
func meets(streets int, cuts []cut) bool {
	return !slices.ContainsFunc(cuts, func(c cut) bool { return streets&c.streets == 0 })
}

// isMend reports whether a list is a mend.
func (q quarter) isMend(list []int) bool {
	if !q.areStreets(list) {
		return false
	}
	set := 0
	for _, i := range list {
		set |= 1 << i
	}
	return meets(set, q.cuts())
}

// mends returns all mends with the fewest streets, in lexicographic order.
func (q quarter) mends() [][]int {
	cuts := q.cuts()
	var mends [][]int
	// Every cut has a street, so all streets are a mend.
	fewest := len(q.streets)
	for set := range 1 << len(q.streets) {
		size := bits.OnesCount(uint(set))
		if size > fewest || !meets(set, cuts) {
			continue
		}
		if size < fewest {
			fewest, mends = size, nil
		}
		mends = append(mends, members(set))
	}
	slices.SortFunc(mends, slices.Compare)
	return mends
}
