package oneway_test

import (
	"math/rand"
	"slices"

	"trishaw/api"
)

// What the chapter defines, written down once more, by trying everything.

// quarter is a number of corners, and the streets between them.
type quarter struct {
	n       int
	streets []api.Pair
}

// joined returns streets, each of which joins two corners that are listed.
func joined(corners ...int) []api.Pair {
	var streets []api.Pair
	for two := range slices.Chunk(corners, 2) {
		streets = append(streets, api.Pair{A: two[0], B: two[1]})
	}
	return streets
}

// ring returns a quarter with a street from each corner to the next one.
func ring(n int) quarter {
	x := quarter{n: n}
	for a := range n {
		x.streets = append(x.streets, api.Pair{A: a, B: (a + 1) % n})
	}
	return x
}

// complete returns a quarter with a street between any two corners.
func complete(n int) quarter {
	x := quarter{n: n}
	for a := range n {
		for b := a + 1; b < n; b++ {
			x.streets = append(x.streets, api.Pair{A: a, B: b})
		}
	}
	return x
}

// twice returns a quarter with each street twice.
func (x quarter) twice() quarter { return quarter{x.n, slices.Concat(x.streets, x.streets)} }

// eight returns two rings that share the corner 0.
func eight() quarter { return quarter{5, joined(0, 1, 1, 2, 2, 0, 0, 3, 3, 4, 4, 0)} }

// randomQuarter returns a quarter of n corners with so many streets.
func randomQuarter(r *rand.Rand, n, many int) quarter {
	x := quarter{n: n}
	for range many {
		if n > 1 {
			two := r.Perm(n)
			x.streets = append(x.streets, api.Pair{A: two[0], B: two[1]})
		}
	}
	return x
}

// randomRings returns a quarter made of rings, in which there often is no bridge.
func randomRings(r *rand.Rand, n, most int) quarter {
	x := quarter{n: n}
	for n > 1 {
		round := r.Perm(n)[:2+r.Intn(n-1)]
		if len(x.streets)+len(round) > most {
			break
		}
		for k, a := range round {
			x.streets = append(x.streets, api.Pair{A: a, B: round[(k+1)%len(round)]})
		}
	}
	r.Shuffle(len(x.streets), func(i, j int) { x.streets[i], x.streets[j] = x.streets[j], x.streets[i] })
	return x
}

// someQuarters returns quarters of all sizes with at most so many streets, the same ones each time.
func someQuarters(many, most int) []quarter {
	r := rand.New(rand.NewSource(1))
	all := []quarter{{1, nil}, {2, nil}, {7, nil}, {3, joined(0, 1, 1, 2)}, {4, joined(0, 1, 1, 2, 2, 0)}, ring(3), ring(2)}
	for len(all) < many {
		n := 1 + r.Intn(api.MaxCorners)
		all = append(all, randomQuarter(r, n, r.Intn(most+1)), randomRings(r, n, most), randomRings(r, 1+r.Intn(4), most))
	}
	return all
}

// randomSigns returns signs of so many streets.
func randomSigns(r *rand.Rand, many int) string {
	signs := ""
	for range many {
		signs += string("<>"[r.Intn(2)])
	}
	return signs
}

// everySigns returns all signs of so many streets, in order.
func everySigns(many int) []string {
	if many == 0 {
		return []string{""}
	}
	var all []string
	for _, sign := range []string{"<", ">"} {
		for _, rest := range everySigns(many - 1) {
			all = append(all, sign+rest)
		}
	}
	return all
}

// turn turns all signs.
func turn(signs string) string {
	other := ""
	for _, c := range signs {
		other += string('<' + '>' - c)
	}
	return other
}

// from and to return where a street begins and ends by its sign.
func from(s api.Pair, sign byte) int { return map[byte]int{'>': s.A, '<': s.B}[sign] }
func to(s api.Pair, sign byte) int   { return map[byte]int{'>': s.B, '<': s.A}[sign] }

const never = 1000

// table returns the least number of streets, at least one, from each corner to each one; never if there is no way. Signs that are missing allow both directions.
func table(x quarter, signs string) [][]int {
	far := make([][]int, x.n)
	for a := range far {
		far[a] = slices.Repeat([]int{never}, x.n)
	}
	for i, s := range x.streets {
		if i >= len(signs) || signs[i] == '>' {
			far[s.A][s.B] = 1
		}
		if i >= len(signs) || signs[i] == '<' {
			far[s.B][s.A] = 1
		}
	}
	for over := range x.n {
		for a := range x.n {
			for b := range x.n {
				far[a][b] = min(far[a][b], far[a][over]+far[over][b])
			}
		}
	}
	return far
}

// slowWidth returns the width; never or more if signs are not strong.
func slowWidth(x quarter, signs string) int {
	most := 0
	for a, row := range table(x, signs) {
		for b, far := range row {
			if a != b {
				most = max(most, far)
			}
		}
	}
	return most
}

func slowStrong(x quarter, signs string) bool { return slowWidth(x, signs) < never }

func connected(x quarter) bool { return slowStrong(x, "") }

func slowLoose(x quarter, signs string) bool {
	for a, row := range table(x, signs) {
		if row[a] < never {
			return false
		}
	}
	return true
}

// without returns a quarter without a street.
func (x quarter) without(i int) quarter {
	return quarter{x.n, slices.Delete(slices.Clone(x.streets), i, i+1)}
}

func slowBridges(x quarter) []int {
	var bridges []int
	for i := range x.streets {
		before, after := table(x, ""), table(x.without(i), "")
		cut := false
		for a := range x.n {
			for b := range x.n {
				cut = cut || a != b && before[a][b] < never && after[a][b] >= never
			}
		}
		if cut {
			bridges = append(bridges, i)
		}
	}
	return bridges
}

// isRound reports whether a list is a round trip along the signs.
func isRound(x quarter, signs string, list []int) bool {
	visited := map[int]bool{}
	for k, i := range list {
		next := list[(k+1)%len(list)]
		if to(x.streets[i], signs[i]) != from(x.streets[next], signs[next]) {
			return false
		}
		visited[from(x.streets[i], signs[i])] = true
	}
	return len(list) > 0 && len(visited) == len(list)
}

// slowRounds returns all round trips, in lexicographic order.
func slowRounds(x quarter, signs string) [][]int {
	var rounds [][]int
	var add func(list []int)
	add = func(list []int) {
		if isRound(x, signs, list) {
			rounds = append(rounds, slices.Clone(list))
		}
		if len(list) == x.n {
			return
		}
		for i, s := range x.streets {
			last := len(list) - 1
			if last < 0 || to(x.streets[list[last]], signs[list[last]]) == from(s, signs[i]) && !slices.Contains(list, i) {
				add(append(slices.Clone(list), i))
			}
		}
	}
	add(nil)
	return rounds
}

// corners returns the corners of a walk along streets that begins at a corner; nil if there is none.
func corners(x quarter, at int, list []int) []int {
	walk := []int{at}
	for _, i := range list {
		switch s := x.streets[i]; at {
		case s.A:
			at = s.B
		case s.B:
			at = s.A
		default:
			return nil
		}
		walk = append(walk, at)
	}
	return walk
}

// slowEar reports whether a list of streets is an ear, beside corners that are there already.
func slowEar(x quarter, had map[int]bool, list []int) bool {
	for start := range had {
		walk := corners(x, start, list)
		if len(walk) < 2 || !had[walk[len(walk)-1]] {
			continue
		}
		over := map[int]bool{}
		for _, c := range walk[1 : len(walk)-1] {
			if !had[c] {
				over[c] = true
			}
		}
		if len(over) == len(walk)-2 {
			return true
		}
	}
	return false
}

// slowIsEars reports whether lists are ears with all corners and all streets.
func slowIsEars(x quarter, lists [][]int) bool {
	had, used := map[int]bool{0: true}, map[int]bool{}
	for _, list := range lists {
		for _, i := range list {
			if i < 0 || i >= len(x.streets) || used[i] {
				return false
			}
			used[i] = true
		}
		if !slowEar(x, had, list) {
			return false
		}
		for _, i := range list {
			had[x.streets[i].A], had[x.streets[i].B] = true, true
		}
	}
	return len(had) == x.n && len(used) == len(x.streets)
}

// more returns, for each corner, how many streets more lead to it than away from it.
func more(x quarter, signs string) []int {
	sums := make([]int, x.n)
	for i, s := range x.streets {
		sums[to(s, signs[i])]++
		sums[from(s, signs[i])]--
	}
	return sums
}

func slowEven(x quarter, signs string) bool {
	return !slices.ContainsFunc(more(x, signs), func(sum int) bool { return sum < -1 || sum > 1 })
}

// slowDiffer reports whether lists are round trips along a, no two with a common street, with exactly the streets that differ.
func slowDiffer(x quarter, a, b string, lists [][]int) bool {
	var want []int
	for i := range x.streets {
		if a[i] != b[i] {
			want = append(want, i)
		}
	}
	for _, list := range lists {
		if !isRound(x, a, list) {
			return false
		}
	}
	used := slices.Concat(lists...)
	slices.Sort(used)
	return slices.Equal(used, want)
}
