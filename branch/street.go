package branch

import (
	"trishaw/api"
)

// enters reports whether a street leads from outside a set of corners into it.
func enters(w api.Way, set int) bool { return set>>w.A&1 == 0 && set>>w.B&1 == 1 }

// entering returns the indices of the streets that enter a set.
func entering(ways []api.Way, set int) []int {
	var list []int
	for i, w := range ways {
		if enters(w, set) {
			list = append(list, i)
		}
	}
	return list
}

// chosen returns the streets with these indices.
func chosen(ways []api.Way, list []int) []api.Way {
	streets := make([]api.Way, len(list))
	for k, i := range list {
		streets[k] = ways[i]
	}
	return streets
}

// total returns the sum of the costs of streets.
func total(ways []api.Way) int {
	sum := 0
	for _, w := range ways {
		sum += w.Cost
	}
	return sum
}

// reach returns the set of the corners that can be reached from the corner 0.
func reach(n int, ways []api.Way) int {
	reached := 1
	// Each round finds another corner, as long as there is one.
	for range n {
		for _, w := range ways {
			if reached>>w.A&1 == 1 {
				reached |= 1 << w.B
			}
		}
	}
	return reached
}

func reachesAll(n int, ways []api.Way) bool { return reach(n, ways) == 1<<n-1 }
