package branch

import (
	"slices"

	"trishaw/api"
)

// toll is what all streets that enter a set pay, and the street that has paid its whole cost with it.
type toll struct{ set, worth, street int }

// quarter is a town in which rings have been contracted to one part each.
type quarter struct {
	ways  []api.Way
	left  []int  // what each street has not paid yet
	parts []int  // the part of each corner, as a set
	by    []int  // the street by which the part of each corner is entered
	tolls []toll // of all parts, also of those that have become one
}

// contract prices the corners, and the rings that are left, until no ring is left (Chu and Liu; Edmonds). The town must have a branching.
func contract(n int, ways []api.Way, costs []int) quarter {
	q := quarter{ways: ways, left: slices.Clone(costs), parts: make([]int, n), by: make([]int, n)}
	for c := 1; c < n; c++ {
		q.enter(1 << c)
	}
	for ring := q.ring(); ring != 0; ring = q.ring() {
		q.enter(ring)
	}
	return q
}

// enter makes a set one part, and has the streets that enter it pay as much as the first of them can.
func (q *quarter) enter(set int) {
	streets := entering(q.ways, set)
	street := slices.MinFunc(streets, func(s, t int) int { return q.left[s] - q.left[t] })
	worth := q.left[street]
	for _, s := range streets {
		q.left[s] -= worth
	}
	for c := range q.parts {
		if set>>c&1 == 1 {
			q.parts[c], q.by[c] = set, street
		}
	}
	q.tolls = append(q.tolls, toll{set, worth, street})
}

// before returns the corner from which the part of a corner is entered.
func (q *quarter) before(corner int) int { return q.ways[q.by[corner]].A }

// ring returns all corners of parts that are entered from each other in a ring; 0 if there are none.
func (q *quarter) ring() int {
corners:
	for c := range q.parts {
		for range q.parts {
			if c == 0 {
				continue corners
			}
			c = q.before(c)
		}
		// After as many steps as there are corners, without the stand, c lies on a ring.
		ring := 0
		for ring&q.parts[c] == 0 {
			ring |= q.parts[c]
			c = q.before(c)
		}
		return ring
	}
	return 0
}

// branching returns the branching of streets that have paid their whole cost, and of which just one enters each set.
func (q *quarter) branching() []int {
	var list []int
	// A set comes after those that it contains, so that backwards the street that enters a ring decides which of its parts needs no other.
	for _, t := range slices.Backward(q.tolls) {
		inside := func(s int) bool { return enters(q.ways[s], t.set) }
		if !slices.ContainsFunc(list, inside) {
			list = append(list, t.street)
		}
	}
	slices.Sort(list)
	return list
}

// prices returns the tolls that are worth something.
func (q *quarter) prices() []api.Price {
	var proof []api.Price
	for _, t := range q.tolls {
		if t.worth > 0 {
			proof = append(proof, api.Price{Set: t.set, Worth: t.worth})
		}
	}
	return proof
}

// cheapest returns the branching with the least sum of costs, of several the lexicographically least one. The town must have one.
func cheapest(n int, ways []api.Way, cost func(api.Way) int) []int {
	costs := make([]int, len(ways))
	for i, w := range ways {
		// Of two lists of the same length, the lexicographically lesser one has the least index that is not in both. So an index weighs more than all later ones together, and a cost more than all indices.
		costs[i] = cost(w)<<api.MaxWays - 1<<(api.MaxWays-1-i)
	}
	q := contract(n, ways, costs)
	return q.branching()
}
