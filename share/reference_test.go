package share_test

import (
	"math/big"
	"math/rand"
	"slices"

	"trishaw/api"
)

// What the chapter defines, written down once more, in rational numbers and by trying everything.

func rat(num, den int) *big.Rat { return big.NewRat(int64(num), int64(den)) }

func zero() *big.Rat { return new(big.Rat) }

func ratio(x *big.Rat) api.Ratio {
	return api.Ratio{Num: int(x.Num().Int64()), Den: int(x.Denom().Int64())}
}

func value(r api.Ratio) *big.Rat { return rat(r.Num, r.Den) }

// values returns the numbers that parts are.
func values(p api.Parts) []*big.Rat {
	var list []*big.Rat
	for _, x := range p.Nums {
		list = append(list, rat(x, p.Den))
	}
	return list
}

// parts returns numbers as parts: the least Den for which all Nums are whole.
func parts(list []*big.Rat) api.Parts {
	den := 1
	for !allWhole(list, den) {
		den++
	}
	p := api.Parts{Nums: []int{}, Den: den}
	for _, x := range list {
		p.Nums = append(p.Nums, ratio(zero().Mul(x, rat(den, 1))).Num)
	}
	return p
}

func allWhole(list []*big.Rat, den int) bool {
	return !slices.ContainsFunc(list, func(x *big.Rat) bool { return !zero().Mul(x, rat(den, 1)).IsInt() })
}

// both is the points of A and B.
type both struct{ a, b []int }

// randomPoints returns points for so many things: often with zeros, and often with equal numbers.
func randomPoints(r *rand.Rand, many int) []int {
	points := make([]int, many)
	step := []int{1, 5, 10, 25, 50, 100}[r.Intn(6)]
	few := 1 + r.Intn(many)
	for left := api.MaxPoints; left > 0; left -= step {
		points[r.Intn(few)] += step
	}
	r.Shuffle(many, func(i, k int) { points[i], points[k] = points[k], points[i] })
	return points
}

// someBoth returns points for 1 to so many things, the same ones each time.
func someBoth(many, most int) []both {
	r := rand.New(rand.NewSource(1))
	var all []both
	for len(all) < many {
		n := 1 + r.Intn(most)
		x := both{randomPoints(r, n), randomPoints(r, n)}
		switch r.Intn(8) {
		case 0:
			x.b = slices.Clone(x.a)
		case 1:
			x.b = slices.Clone(x.a)
			slices.Reverse(x.b)
		}
		all = append(all, x)
	}
	return all
}

// slowScores returns the score of A and that of B.
func slowScores(x both, list []*big.Rat) (*big.Rat, *big.Rat) {
	a, b := zero(), zero()
	for i, part := range list {
		a.Add(a, zero().Mul(part, rat(x.a[i], 1)))
		rest := zero().Sub(rat(1, 1), part)
		b.Add(b, zero().Mul(rest, rat(x.b[i], 1)))
	}
	return a, b
}

// isBefore reports whether a thing comes before another one for A, as the chapter orders them.
func isBefore(x both, i, k int) bool {
	kind := func(i int) int {
		switch {
		case x.a[i] > 0 && x.b[i] == 0:
			return 0
		case x.a[i] > 0:
			return 1
		case x.b[i] > 0:
			return 2
		}
		return 3
	}
	if kind(i) != kind(k) {
		return kind(i) < kind(k)
	}
	if kind(i) == 1 {
		if c := rat(x.a[i], x.b[i]).Cmp(rat(x.a[k], x.b[k])); c != 0 {
			return c > 0
		}
	}
	return i < k
}

// slowOrder returns the things in their order: each at the place that is the number of those before it.
func slowOrder(x both) []int {
	order := make([]int, len(x.a))
	for i := range x.a {
		place := 0
		for k := range x.a {
			if k != i && isBefore(x, k, i) {
				place++
			}
		}
		order[place] = i
	}
	return order
}

// slowWinner returns the parts of the adjusted winner.
func slowWinner(x both) []*big.Rat {
	list := make([]*big.Rat, len(x.a))
	for i := range list {
		list[i] = zero()
	}
	for _, i := range slowOrder(x) {
		list[i].SetInt64(1)
		a, b := slowScores(x, list)
		if a.Cmp(b) < 0 {
			continue
		}
		// Now A has too much, or just enough: so much less makes the scores the same.
		more := zero().Quo(zero().Sub(a, b), rat(x.a[i]+x.b[i], 1))
		list[i].Sub(list[i], more)
		break
	}
	return list
}

// isBetter reports whether parts have scores as great as others, and one that is greater.
func isBetter(x both, list []*big.Rat, a0, b0 *big.Rat) bool {
	a, b := slowScores(x, list)
	return a.Cmp(a0) >= 0 && b.Cmp(b0) >= 0 && (a.Cmp(a0) > 0 || b.Cmp(b0) > 0)
}

// slowEfficient tries all parts of which at most one is neither 0 nor 1, and this one is as small or as great as it may be:
// the greatest score of one driver, where the other one has a certain score at least, is met by one of these.
func slowEfficient(x both, list []*big.Rat) bool {
	a0, b0 := slowScores(x, list)
	for set := range 1 << len(list) {
		other := make([]*big.Rat, len(list))
		for i := range other {
			other[i] = rat(set>>i&1, 1)
		}
		for i := range other {
			if set>>i&1 == 1 {
				continue
			}
			for _, part := range edges(x, other, i, a0, b0) {
				other[i] = part
				if isBetter(x, other, a0, b0) {
					return false
				}
			}
			other[i] = zero()
		}
	}
	return true
}

// edges returns the parts of one thing with which A or B has just a certain score, and 0 and 1; only those from 0 to 1.
func edges(x both, list []*big.Rat, i int, a0, b0 *big.Rat) []*big.Rat {
	a, b := slowScores(x, list) // with 0 for this thing
	all := []*big.Rat{zero(), rat(1, 1)}
	if x.a[i] > 0 {
		all = append(all, zero().Quo(zero().Sub(a0, a), rat(x.a[i], 1)))
	}
	if x.b[i] > 0 {
		all = append(all, zero().Quo(zero().Sub(b, b0), rat(x.b[i], 1)))
	}
	return slices.DeleteFunc(all, func(p *big.Rat) bool { return p.Sign() < 0 || p.Cmp(rat(1, 1)) > 0 })
}

// slowWhole looks for the greatest score that both can have, from the top.
func slowWhole(x both) (int, int) {
	for score := api.MaxPoints; ; score-- {
		for set := range 1 << len(x.a) {
			a, b := 0, 0
			for i := range x.a {
				a += x.a[i] * (set >> i & 1)
				b += x.b[i] * (1 - set>>i&1)
			}
			if a >= score && b >= score {
				return set, score
			}
		}
	}
}

// randomParts returns parts of so many things, many of them 0 or 1.
func randomParts(r *rand.Rand, many int) api.Parts {
	den := []int{1, 1, 2, 3, 4, 7, 12, 100, 199}[r.Intn(9)]
	var list []*big.Rat
	for range many {
		list = append(list, rat([]int{0, den, r.Intn(den + 1)}[r.Intn(3)], den))
	}
	return parts(list)
}

// cutParts returns parts with which A has the first things in their order, one of them in part; with ties sometimes shuffled.
func cutParts(r *rand.Rand, x both) api.Parts {
	order := slowOrder(x)
	list := make([]*big.Rat, len(order))
	cut := r.Intn(len(order))
	for place, i := range order {
		switch {
		case place < cut:
			list[i] = rat(1, 1)
		case place == cut:
			list[i] = rat(r.Intn(6), 5)
		default:
			list[i] = zero()
		}
	}
	if r.Intn(3) == 0 { // a neighbour, which may be as good as the cut thing
		i := order[max(0, cut-1)]
		list[i] = rat(r.Intn(4), 3)
	}
	return parts(list)
}

// randomWishes returns wishes of so many drivers, whose numbers and sums are at most as given.
func randomWishes(r *rand.Rand, n, top, rent int) [][]int {
	wishes := make([][]int, n)
	for i := range wishes {
		wishes[i] = make([]int, n)
		for left := min(rent, n*top); left > 0; {
			k := r.Intn(n)
			more := min(left, 1+r.Intn(1+rent/2), top-wishes[i][k])
			wishes[i][k] += more
			left -= more
		}
	}
	if r.Intn(5) == 0 && n > 1 {
		wishes[0] = slices.Clone(wishes[n-1])
	}
	return wishes
}

// someWishes returns wishes of 1 to so many drivers, the same ones each time.
func someWishes(many, most int) [][][]int {
	r := rand.New(rand.NewSource(2))
	var all [][][]int
	for len(all) < many {
		n := 1 + r.Intn(most)
		top := []int{1, 2, 5, 20, 300, 1000}[r.Intn(6)]
		all = append(all, randomWishes(r, n, top, r.Intn(n*top+1)))
	}
	return all
}

// tinyWishes returns wishes for which all rents can be tried.
func tinyWishes(many int) [][][]int {
	r := rand.New(rand.NewSource(3))
	var all [][][]int
	for len(all) < many {
		n := 1 + r.Intn(3)
		top := 1 + r.Intn(6)
		all = append(all, randomWishes(r, n, top, r.Intn(n*top+1)))
	}
	return all
}

func total(list []int) int {
	sum := 0
	for _, x := range list {
		sum += x
	}
	return sum
}

// slowAssignments returns all assignments of n rickshaws: of all lists, in lexicographic order, those that have each once.
func slowAssignments(n int) [][]int {
	all := [][]int{nil}
	for range n {
		var longer [][]int
		for _, l := range all {
			for k := range n {
				longer = append(longer, append(slices.Clone(l), k))
			}
		}
		all = longer
	}
	return slices.DeleteFunc(all, func(l []int) bool { return len(slices.Compact(slices.Sorted(slices.Values(l)))) < n })
}

func worth(wishes [][]int, rickshaws []int) int {
	sum := 0
	for i, k := range rickshaws {
		sum += wishes[i][k]
	}
	return sum
}

func slowAssign(wishes [][]int) ([]int, int) {
	var best []int
	for _, l := range slowAssignments(len(wishes)) {
		if best == nil || worth(wishes, l) > worth(wishes, best) {
			best = l
		}
	}
	return best, worth(wishes, best)
}

// slowDearer tries all ways over different rickshaws.
func slowDearer(wishes [][]int) [][]int {
	n := len(wishes)
	assign, _ := slowAssign(wishes)
	step := func(x, y int) int {
		j := slices.Index(assign, y)
		return wishes[j][y] - wishes[j][x]
	}
	var least func(way []int, to int) int
	least = func(way []int, to int) int {
		at := way[len(way)-1]
		if at == to {
			return 0
		}
		best := step(at, to)
		for x := range n {
			if !slices.Contains(way, x) {
				best = min(best, step(at, x)+least(append(slices.Clone(way), x), to))
			}
		}
		return best
	}
	table := make([][]int, n)
	for k := range n {
		for l := range n {
			table[k] = append(table[k], least([]int{k}, l))
		}
	}
	return table
}

// slowEnvy returns all pairs for which the condition of rents without envy does not hold.
func slowEnvy(wishes [][]int, rickshaws []int, rents api.Parts) []api.Pair {
	var pairs []api.Pair
	price := values(rents)
	for i := range wishes {
		for l := range wishes {
			k := rickshaws[i]
			own := zero().Sub(rat(wishes[i][k], 1), price[k])
			if own.Cmp(zero().Sub(rat(wishes[i][l], 1), price[l])) < 0 {
				pairs = append(pairs, api.Pair{A: i, B: l})
			}
		}
	}
	return pairs
}

// allRents returns all rents without envy with an assignment that are multiples of 1 / n, for wishes of at most three drivers.
func allRents(wishes [][]int, rickshaws []int) []api.Parts {
	n, rent := len(wishes), total(wishes[0])
	most := 0
	for _, row := range wishes {
		most = max(most, slices.Max(row))
	}
	// No two rents differ by more than the greatest wish, so none differs by more from rent / n.
	low, high := rent-n*most, rent+n*most
	var all []api.Parts
	var add func(nums []int)
	add = func(nums []int) {
		if len(nums) == n-1 {
			p := parts(values(api.Parts{Nums: append(slices.Clone(nums), n*rent-total(nums)), Den: n}))
			if len(slowEnvy(wishes, rickshaws, p)) == 0 {
				all = append(all, p)
			}
			return
		}
		for x := low; x <= high; x++ {
			add(append(slices.Clone(nums), x))
		}
	}
	add(nil)
	return all
}

// randomRents returns rents of any kind, sometimes near to a rent for each that is given.
func randomRents(r *rand.Rand, wishes [][]int, near api.Parts) api.Parts {
	n := len(wishes)
	list := values(near)
	den := 1 + r.Intn(7)
	for range r.Intn(3) {
		k, l := r.Intn(n), r.Intn(n)
		more := rat(r.Intn(3*den)-den, den)
		list[k] = zero().Add(list[k], more)
		list[l] = zero().Sub(list[l], more)
	}
	return parts(list)
}
