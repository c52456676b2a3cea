package branch

import (
	"slices"

	"trishaw/api"
)

// checkTown returns the error of a town, or OK.
func checkTown(n int, ways []api.Way) api.Errno {
	if n < 2 || n > api.MaxCorners {
		return api.ErrArg
	}
	if len(ways) > api.MaxWays {
		return api.ErrLimit
	}
	for _, w := range ways {
		if !isCorner(n, w.A) || !isCorner(n, w.B) || w.A == w.B || w.Cost < 0 || w.Cost > api.MaxToll {
			return api.ErrArg
		}
	}
	return api.OK
}

// checkPlan returns the error of a town, then that of a town without a branching.
func checkPlan(n int, ways []api.Way) api.Errno {
	if e := checkTown(n, ways); e != api.OK {
		return e
	}
	if !reachesAll(n, ways) {
		return api.ErrPlan
	}
	return api.OK
}

func isCorner(n, corner int) bool { return corner >= 0 && corner < n }

// isSet reports whether a number is a set of corners, the corner 0 not among them.
func isSet(n, set int) bool { return set > 0 && set < 1<<n && set&1 == 0 }

// isBranching reports whether a list of indices is a branching.
func isBranching(n int, ways []api.Way, list []int) bool {
	if len(list) != n-1 || !slices.IsSorted(list) || list[0] < 0 || list[n-2] >= len(ways) {
		return false
	}
	// So few streets reach all corners only if one leads to each.
	return reachesAll(n, chosen(ways, list))
}

// isProof reports whether prices are a proof.
func isProof(n int, ways []api.Way, proof []api.Price) bool {
	priced := make([]bool, 1<<n)
	for _, p := range proof {
		if !isSet(n, p.Set) || priced[p.Set] || p.Worth < 1 || p.Worth > api.MaxToll {
			return false
		}
		priced[p.Set] = true
	}
	for _, w := range ways {
		if due(w, proof) > w.Cost {
			return false
		}
	}
	return true
}

// due returns the worth of all sets that a street enters.
func due(w api.Way, proof []api.Price) int {
	sum := 0
	for _, p := range proof {
		if enters(w, p.Set) {
			sum += p.Worth
		}
	}
	return sum
}
