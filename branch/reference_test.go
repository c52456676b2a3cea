package branch_test

import (
	"math/rand"
	"slices"

	"trishaw/api"
)

// What the chapter defines, written down once more, by trying everything.

func in(set, corner int) bool { return set&(1<<corner) != 0 }

// allSets returns all sets of corners of a town.
func allSets(n int) []int {
	var sets []int
	for set := 1; set < 1<<n; set++ {
		if !in(set, 0) {
			sets = append(sets, set)
		}
	}
	return sets
}

func slowEntering(ways []api.Way, set int) []int {
	var list []int
	for i, w := range ways {
		if !in(set, w.A) && in(set, w.B) {
			list = append(list, i)
		}
	}
	return list
}

// slowReach follows the streets from the corner 0.
func slowReach(ways []api.Way) int {
	reached := 0
	var visit func(corner int)
	visit = func(corner int) {
		if in(reached, corner) {
			return
		}
		reached |= 1 << corner
		for _, w := range ways {
			if w.A == corner {
				visit(w.B)
			}
		}
	}
	visit(0)
	return reached
}

func pick(ways []api.Way, list []int) []api.Way {
	var some []api.Way
	for _, i := range list {
		some = append(some, ways[i])
	}
	return some
}

func cost(ways []api.Way, list []int) int {
	sum := 0
	for _, w := range pick(ways, list) {
		sum += w.Cost
	}
	return sum
}

// allBranchings returns all branchings in lexicographic order.
func allBranchings(n int, ways []api.Way) [][]int {
	var all [][]int
	var add func(list []int, next, led int)
	add = func(list []int, next, led int) {
		if len(list) == n-1 {
			if slowReach(pick(ways, list)) == 1<<n-1 {
				all = append(all, slices.Clone(list))
			}
			return
		}
		for i := next; i < len(ways); i++ {
			if b := ways[i].B; b != 0 && !in(led, b) {
				add(append(slices.Clone(list), i), i+1, led|1<<b)
			}
		}
	}
	add(nil, 0, 0)
	return all
}

// slowBest returns the first of the lists with the least cost, or with the greatest one.
func slowBest(ways []api.Way, all [][]int, dear bool) ([]int, int) {
	var best []int
	for _, list := range all {
		if c, least := cost(ways, list), cost(ways, best); best == nil || dear && c > least || !dear && c < least {
			best = list
		}
	}
	return best, cost(ways, best)
}

// slowProves returns the worth of a proof; -1 if it is none.
func slowProves(n int, ways []api.Way, proof []api.Price) int {
	worth := map[int]int{}
	sum := 0
	for _, p := range proof {
		if worth[p.Set] != 0 || !slices.Contains(allSets(n), p.Set) || p.Worth < 1 || p.Worth > 1000 {
			return -1
		}
		worth[p.Set] = p.Worth
		sum += p.Worth
	}
	for i, w := range ways {
		entered := 0
		for _, set := range allSets(n) {
			if slices.Contains(slowEntering(ways, set), i) {
				entered += worth[set]
			}
		}
		if entered > w.Cost {
			return -1
		}
	}
	return sum
}

func slowNarrow(n int, ways []api.Way) (int, int) {
	many, narrow := len(ways)+1, 0
	for _, set := range allSets(n) {
		if k := len(slowEntering(ways, set)); k < many {
			many, narrow = k, set
		}
	}
	return many, narrow
}

// common reports whether two ascending lists have a street in common.
func common(a, b []int) bool {
	return slices.ContainsFunc(a, func(i int) bool { return slices.Contains(b, i) })
}

// slowApart returns the greatest number of lists without a common street.
func slowApart(all [][]int) int {
	most := 0
	for k, list := range all {
		var rest [][]int
		for _, other := range all[k+1:] {
			if !common(list, other) {
				rest = append(rest, other)
			}
		}
		most = max(most, 1+slowApart(rest))
	}
	return most
}

// slowDeterminant sums over all orders of the columns.
func slowDeterminant(table [][]int) int {
	if len(table) == 0 {
		return 1
	}
	sum, sign := 0, 1
	for column := range table {
		var rest [][]int
		for _, row := range table[1:] {
			rest = append(rest, slices.Delete(slices.Clone(row), column, column+1))
		}
		sum += sign * table[0][column] * slowDeterminant(rest)
		sign = -sign
	}
	return sum
}

// tutte returns the table of the determinant.
func tutte(n int, ways []api.Way) [][]int {
	table := make([][]int, n)
	for i := range table {
		table[i] = make([]int, n)
	}
	for _, w := range ways {
		table[w.B][w.B]++
		table[w.A][w.B]--
	}
	for i := range table {
		table[i] = table[i][1:]
	}
	return table[1:]
}

// town is the number of corners, and the streets.
type town struct {
	n    int
	ways []api.Way
}

func randomWay(r *rand.Rand, n, most int) api.Way {
	a := r.Intn(n)
	b := (a + 1 + r.Intn(n-1)) % n
	return api.Way{A: a, B: b, Cost: r.Intn(most + 1)}
}

func randomTown(r *rand.Rand, n, many, most int) town {
	t := town{n, nil}
	for range many {
		t.ways = append(t.ways, randomWay(r, n, most))
	}
	return t
}

// ringTown has rings within rings that are cheap, and streets from the stand that are dear.
func ringTown(r *rand.Rand, n, many int) town {
	t := town{n, nil}
	for range many {
		w := randomWay(r, n, 9)
		if w.A == 0 {
			w.Cost += 50 + r.Intn(50)
		} else if (w.A+1)/2 != (w.B+1)/2 {
			w.Cost += 10 + r.Intn(10)
		}
		t.ways = append(t.ways, w)
	}
	return t
}

// wideTown has two streets or more into each corner, most of them from the stand.
func wideTown(r *rand.Rand, n, many int) town {
	t := town{n, nil}
	for k := range many {
		w := randomWay(r, n, 3)
		w.B = 1 + k%(n-1)
		if w.A == w.B {
			w.A = 0
		}
		t.ways = append(t.ways, w)
	}
	r.Shuffle(many, func(i, j int) { t.ways[i], t.ways[j] = t.ways[j], t.ways[i] })
	return t
}

// someTowns returns towns of all kinds, with at most that many streets, the same ones each time.
func someTowns(many, streets int) []town {
	r := rand.New(rand.NewSource(1))
	towns := []town{
		example(), ring(), {4, rings()}, {2, nil}, {7, nil}, {2, []api.Way{{A: 1, B: 0}}}, {2, []api.Way{{A: 0, B: 1, Cost: 1000}}},
		{3, []api.Way{{A: 0, B: 1}, {A: 1, B: 0}, {A: 2, B: 0}, {A: 2, B: 1}}},
		{3, []api.Way{{A: 1, B: 2}, {A: 2, B: 1}}},
	}
	for i := range many {
		n := 2 + i%(api.MaxCorners-1)
		towns = append(towns,
			randomTown(r, n, r.Intn(streets+1), []int{0, 1, 2, 5, api.MaxToll}[i%5]),
			randomTown(r, n, streets, []int{1, 3, api.MaxToll}[i%3]),
			ringTown(r, n, streets-r.Intn(3)),
			wideTown(r, n, streets-r.Intn(3)))
	}
	return towns
}

// example and ring are the chapter's examples.
func example() town {
	return town{3, []api.Way{{A: 0, B: 1, Cost: 5}, {A: 0, B: 2, Cost: 1}, {A: 2, B: 1, Cost: 2}}}
}

func ring() town {
	return town{3, []api.Way{{A: 0, B: 1, Cost: 1}, {A: 1, B: 2, Cost: 1}, {A: 2, B: 1, Cost: 0}}}
}

// rings is the streets of a ring of 1 and 2 that lies in a ring with 3.
func rings() []api.Way {
	return []api.Way{
		{A: 1, B: 2, Cost: 1}, {A: 2, B: 1, Cost: 1}, {A: 2, B: 3, Cost: 2}, {A: 3, B: 1, Cost: 4},
		{A: 0, B: 1, Cost: 20}, {A: 0, B: 2, Cost: 19}, {A: 0, B: 3, Cost: 18},
	}
}

// fullTown has as many corners and streets as a town may have, and the same number of streets into each corner.
func fullTown() town {
	t := town{n: api.MaxCorners}
	for b := 1; b < t.n; b++ {
		for k := range api.MaxWays / (t.n - 1) {
			t.ways = append(t.ways, api.Way{A: (b + 1 + k) % t.n, B: b, Cost: api.MaxToll - k*b})
		}
	}
	return t
}
