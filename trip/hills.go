package trip

import (
	"cmp"
	"slices"

	"trishaw/api"
)

// hills are rides, and the same rides from the lowest end to the highest one, and from the lowest start to the highest one.
type hills struct {
	rides  []api.Ride
	ends   []int
	starts []int
}

func newHills(rides []api.Ride) hills {
	ends := sorted(rides, func(r api.Ride) int { return r.To })
	starts := sorted(rides, func(r api.Ride) int { return r.From })
	return hills{rides, ends, starts}
}

// sorted returns the indices of the rides from the lowest height to the highest one; of the same height the lesser ride is first.
func sorted(rides []api.Ride, height func(api.Ride) int) []int {
	list := indices(len(rides))
	slices.SortStableFunc(list, func(i, k int) int { return cmp.Compare(height(rides[i]), height(rides[k])) })
	return list
}

// indices returns the numbers from 0 to n - 1.
func indices(n int) []int {
	list := make([]int, n)
	for i := range list {
		list[i] = i
	}
	return list
}

// followers returns the ride that follows each ride in the sorted matching.
func (h hills) followers() []int {
	next := make([]int, len(h.rides))
	for k, i := range h.ends {
		next[i] = h.starts[k]
	}
	return next
}

// rings returns the rings of the sorted matching.
func (h hills) rings() [][]int {
	var rings [][]int
	next, had := h.followers(), make([]bool, len(h.rides))
	for first := range next {
		var ring []int
		for i := first; !had[i]; i = next[i] {
			had[i] = true
			ring = append(ring, i)
		}
		if ring != nil {
			slices.Sort(ring)
			rings = append(rings, ring)
		}
	}
	return rings
}

// ringOf returns the index of each ride's ring.
func (h hills) ringOf() []int {
	of := make([]int, len(h.rides))
	for number, ring := range h.rings() {
		for _, i := range ring {
			of[i] = number
		}
	}
	return of
}

// free returns how high it is between the k-th lowest end and start and the next ones: there the sorted matching never goes empty.
func (h hills) free(k int) int {
	low := max(h.rides[h.ends[k]].To, h.rides[h.starts[k]].From)
	high := min(h.rides[h.ends[k+1]].To, h.rides[h.starts[k+1]].From)
	return max(0, high-low)
}

// level returns how many rides go from below a height to it or above it, and how many the other way.
func level(rides []api.Ride, height int) (up, down int) {
	for _, r := range rides {
		switch {
		case r.From < height && r.To >= height:
			up++
		case r.From >= height && r.To < height:
			down++
		}
	}
	return up, down
}
