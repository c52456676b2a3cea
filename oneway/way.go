package oneway

import (
	"slices"

	"trishaw/api"
	"trishaw/street"
)

// has reports whether a set has a corner or a street.
func has(set, x int) bool { return set>>x&1 == 1 }

// bothWays returns the streets, followed by the same ones turned.
func bothWays(streets []api.Pair) []api.Pair {
	ways := slices.Concat(streets, streets)
	for i, s := range streets {
		ways[len(streets)+i] = street.Turned(s)
	}
	return ways
}

// spread adds to a set of corners those to which a street leads from it.
func spread(set int, ways []api.Pair) int {
	more := set
	for _, w := range ways {
		if has(set, w.A) {
			more |= 1 << w.B
		}
	}
	return more
}

// reach returns the corners that can be reached from a corner, and the greatest distance to one of them.
func reach(from int, ways []api.Pair) (set, far int) {
	set = 1 << from
	for more := spread(set, ways); more != set; more = spread(set, ways) {
		set = more
		far++
	}
	return set, far
}

// width returns the greatest distance of all, and whether every corner can be reached from every other one.
func width(n int, ways []api.Pair) (int, bool) {
	most := 0
	for from := range n {
		set, far := reach(from, ways)
		if set != 1<<n-1 {
			return 0, false
		}
		most = max(most, far)
	}
	return most, true
}

func isStrong(n int, ways []api.Pair) bool {
	_, strong := width(n, ways)
	return strong
}

// isLoose reports whether there is no round trip along the streets.
func isLoose(n int, ways []api.Pair) bool {
	// Corners from which no street leads to a corner that is left are left out; what is left after n rounds goes round.
	left := 1<<n - 1
	for range n {
		going := 0
		for _, w := range ways {
			if has(left, w.B) {
				going |= 1 << w.A
			}
		}
		left &= going
	}
	return left == 0
}

// isEven reports whether, at every corner, as many streets arrive as leave, but for one.
func isEven(ways []api.Pair) bool {
	var more [api.MaxCorners]int
	for _, w := range ways {
		more[w.A]--
		more[w.B]++
	}
	return slices.Min(more[:]) >= -1 && slices.Max(more[:]) <= 1
}

// isBridge reports whether one end of a street cannot be reached from the other one without it.
func isBridge(streets []api.Pair, i int) bool {
	others := slices.Concat(streets[:i], streets[i+1:])
	set, _ := reach(streets[i].A, bothWays(others))
	return !has(set, streets[i].B)
}
