package fetch_test

import (
	"math/rand"
	"slices"

	"trishaw/api"
)

// What the chapter defines, written down once more, by trying everything.

// quarter is a number of corners, and the one-way streets between them.
type quarter struct {
	n       int
	streets []api.Pair
}

// leading returns streets, each of which leads from one corner to another one that are listed.
func leading(corners ...int) []api.Pair {
	var streets []api.Pair
	for two := range slices.Chunk(corners, 2) {
		streets = append(streets, api.Pair{A: two[0], B: two[1]})
	}
	return streets
}

// path returns a quarter with a street from each corner to the next one.
func path(n int) quarter {
	x := quarter{n: n}
	for b := 1; b < n; b++ {
		x.streets = append(x.streets, api.Pair{A: b - 1, B: b})
	}
	return x
}

// ring returns a path with a street back to its beginning.
func ring(n int) quarter {
	x := path(n)
	x.streets = append(x.streets, api.Pair{A: n - 1, B: 0})
	return x
}

// star returns a quarter with a street from the corner 0 to each other one.
func star(n int) quarter {
	x := quarter{n: n}
	for b := 1; b < n; b++ {
		x.streets = append(x.streets, api.Pair{A: 0, B: b})
	}
	return x
}

func diamond() quarter { return quarter{4, leading(0, 1, 0, 2, 1, 3, 2, 3)} }

// twice returns a quarter with each street twice.
func (x quarter) twice() quarter { return quarter{x.n, slices.Concat(x.streets, x.streets)} }

// turned returns a quarter with all streets turned around.
func (x quarter) turned() quarter {
	y := quarter{n: x.n}
	for _, s := range x.streets {
		y.streets = append(y.streets, api.Pair{A: s.B, B: s.A})
	}
	return y
}

// randomQuarter returns a connected quarter of n corners with so many streets, at least n - 1; often without any way back.
func randomQuarter(r *rand.Rand, n, many int) quarter {
	x := quarter{n: n}
	order := r.Perm(n)
	back := []int{0, 0, 1, 3, 5}[r.Intn(5)] // how many in ten lead back
	for len(x.streets) < many {
		a, b := r.Intn(n-1), 1+len(x.streets)
		if b >= n {
			b = a + 1 + r.Intn(n-1-a)
		} else {
			a = r.Intn(b)
		}
		if r.Intn(10) < back {
			a, b = b, a
		}
		x.streets = append(x.streets, api.Pair{A: order[a], B: order[b]})
	}
	r.Shuffle(many, func(i, j int) { x.streets[i], x.streets[j] = x.streets[j], x.streets[i] })
	return x
}

// someQuarters returns quarters of all sizes with at most so many streets, at least 6, the same ones each time.
func someQuarters(many, most int) []quarter {
	r := rand.New(rand.NewSource(1))
	all := []quarter{path(2), path(7), star(7), star(7).turned(), ring(3), ring(6), ring(2), diamond(), path(4).twice(), star(4).twice()}
	for len(all) < many {
		n := 2 + r.Intn(api.MaxCorners-1)
		all = append(all, randomQuarter(r, n, n-1+r.Intn(most-n+2)))
	}
	return all
}

// reach returns, for each two corners, whether the second one can be reached from the first one.
func reach(x quarter) [][]bool {
	to := make([][]bool, x.n)
	for a := range to {
		to[a] = make([]bool, x.n)
		to[a][a] = true
	}
	for _, s := range x.streets {
		to[s.A][s.B] = true
	}
	for over := range x.n {
		for a := range x.n {
			for b := range x.n {
				to[a][b] = to[a][b] || to[a][over] && to[over][b]
			}
		}
	}
	return to
}

// slowParts returns the corners in groups that can reach each other.
func slowParts(x quarter) [][]int {
	to := reach(x)
	var parts [][]int
	for a := range x.n {
		var part []int
		for b := range x.n {
			if to[a][b] && to[b][a] {
				part = append(part, b)
			}
		}
		if part[0] == a {
			parts = append(parts, part)
		}
	}
	return parts
}

func slowStrong(x quarter) bool { return len(slowParts(x)) == 1 }

// slowCuts returns all sets of some, not all, corners that cannot be reached from the others.
func slowCuts(x quarter) []int {
	to := reach(x)
	var cuts []int
	for set := 1; set < 1<<x.n-1; set++ {
		entered := false
		for a := range x.n {
			for b := range x.n {
				entered = entered || set>>a%2 == 0 && set>>b%2 == 1 && to[a][b]
			}
		}
		if !entered {
			cuts = append(cuts, set)
		}
	}
	return cuts
}

// slowCrossing returns the streets that have just one end in a cut.
func slowCrossing(x quarter, cut int) []int {
	var list []int
	for i, s := range x.streets {
		if cut>>s.A%2 != cut>>s.B%2 {
			list = append(list, i)
		}
	}
	return list
}

// crossings returns the streets of each cut.
func crossings(x quarter) [][]int {
	var all [][]int
	for _, cut := range slowCuts(x) {
		all = append(all, slowCrossing(x, cut))
	}
	return all
}

// common reports whether two lists have a common element.
func common(a, b []int) bool {
	return slices.ContainsFunc(a, func(i int) bool { return slices.Contains(b, i) })
}

// lists returns all ascending lists of so many of the numbers from first to end - 1, in lexicographic order.
func lists(first, end, size int) [][]int {
	if size == 0 {
		return [][]int{{}}
	}
	var all [][]int
	for i := first; i < end; i++ {
		for _, rest := range lists(i+1, end, size-1) {
			all = append(all, append([]int{i}, rest...))
		}
	}
	return all
}

// allLists returns all ascending lists of streets.
func allLists(x quarter) [][]int {
	var all [][]int
	for size := range len(x.streets) + 1 {
		all = append(all, lists(0, len(x.streets), size)...)
	}
	return all
}

// slowIsMend reports whether a list is ascending and has a street of each of the crossings of a quarter.
func slowIsMend(x quarter, crossings [][]int, list []int) bool {
	for k, i := range list {
		if i < 0 || i >= len(x.streets) || k > 0 && i <= list[k-1] {
			return false
		}
	}
	return !slices.ContainsFunc(crossings, func(c []int) bool { return !common(c, list) })
}

// slowMends returns all mends with the fewest streets, in lexicographic order.
func slowMends(x quarter) [][]int {
	all := crossings(x)
	for size := 0; ; size++ {
		mends := slices.DeleteFunc(lists(0, len(x.streets), size), func(l []int) bool { return !slowIsMend(x, all, l) })
		if len(mends) > 0 {
			return mends
		}
	}
}

// slowAreApart reports whether a list has only cuts, and none has a common street with an earlier one.
func slowAreApart(x quarter, list []int) bool {
	cuts := slowCuts(x)
	for k, cut := range list {
		if !slices.Contains(cuts, cut) {
			return false
		}
		for _, other := range list[:k] {
			if common(slowCrossing(x, cut), slowCrossing(x, other)) {
				return false
			}
		}
	}
	return true
}

// slowApart tries all ascending lists of cuts apart, in lexicographic order, and returns the first one of the longest.
func slowApart(x quarter) []int {
	cuts, all := slowCuts(x), crossings(x)
	var best []int
	var add func(list []int, next int, taken []int)
	add = func(list []int, next int, taken []int) {
		if len(list) > len(best) {
			best = slices.Clone(list)
		}
		for k := next; k < len(cuts); k++ {
			if !common(all[k], taken) {
				add(append(slices.Clone(list), cuts[k]), k+1, slices.Concat(taken, all[k]))
			}
		}
	}
	add(nil, 0, nil)
	return best
}

// slowSmallest returns the least number of streets of any cut, and the least cut with so few; false if there is no cut.
func slowSmallest(x quarter) (many, set int, found bool) {
	for many := range len(x.streets) + 1 {
		for _, cut := range slowCuts(x) {
			if len(slowCrossing(x, cut)) == many {
				return many, cut, true
			}
		}
	}
	return 0, 0, false
}

// made returns a quarter of which the corners of a street are made one, and the new name of each corner.
func made(x quarter, street int) (quarter, []int) {
	gone := x.streets[street]
	kept, lost := min(gone.A, gone.B), max(gone.A, gone.B)
	var names []int
	for corner := range x.n {
		switch {
		case corner == lost:
			corner = kept
		case corner > lost:
			corner--
		}
		names = append(names, corner)
	}
	y := quarter{n: x.n - 1}
	for _, s := range x.streets {
		if a, b := names[s.A], names[s.B]; a != b {
			y.streets = append(y.streets, api.Pair{A: a, B: b})
		}
	}
	return y, names
}
