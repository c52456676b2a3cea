package trip_test

import (
	"math/rand"
	"slices"

	"trishaw/api"
)

// What the chapter defines, written down once more, by trying everything.

// hill is a list of rides and a slope.
type hill struct {
	rides []api.Ride
	slope api.Slope
}

// rides returns rides, each from a height to the next one that is listed.
func rides(heights ...int) []api.Ride {
	var list []api.Ride
	for two := range slices.Chunk(heights, 2) {
		list = append(list, api.Ride{From: two[0], To: two[1]})
	}
	return list
}

// randomHill returns a day of so many rides with heights up to a greatest one.
func randomHill(r *rand.Rand, many, top int) hill {
	x := hill{slope: api.Slope{Up: r.Intn(4), Down: r.Intn(4)}}
	if r.Intn(3) == 0 {
		x.slope = api.Slope{Up: r.Intn(1001), Down: r.Intn(1001)}
	}
	for range many {
		from := r.Intn(top + 1)
		to := r.Intn(top + 1)
		if r.Intn(3) == 0 {
			to = min(top, max(0, from+r.Intn(3)-1))
		}
		x.rides = append(x.rides, api.Ride{From: from, To: to})
	}
	return x
}

// someHills returns days of 1 to so many rides, the same ones each time.
func someHills(many, most int) []hill {
	r := rand.New(rand.NewSource(1))
	var all []hill
	for len(all) < many {
		top := []int{0, 1, 2, 4, 8, 20, 100, 999, 1000}[r.Intn(9)]
		all = append(all, randomHill(r, 1+r.Intn(most), top))
	}
	return all
}

// turned returns the rides backwards.
func turned(x hill) hill {
	y := hill{slope: api.Slope{Up: x.slope.Down, Down: x.slope.Up}}
	for _, r := range x.rides {
		y.rides = append(y.rides, api.Ride{From: r.To, To: r.From})
	}
	return y
}

// raised returns the rides with all heights increased.
func raised(x hill, more int) hill {
	y := hill{slope: x.slope}
	for _, r := range x.rides {
		y.rides = append(y.rides, api.Ride{From: r.From + more, To: r.To + more})
	}
	return y
}

// slowEmpty returns what the way up costs, or the way down.
func slowEmpty(x hill, i, k int) int {
	end, start := x.rides[i].To, x.rides[k].From
	return x.slope.Up*max(0, start-end) + x.slope.Down*max(0, end-start)
}

func slowCost(x hill, order []int) int {
	cost := slowEmpty(x, order[len(order)-1], order[0])
	for k := 1; k < len(order); k++ {
		cost += slowEmpty(x, order[k-1], order[k])
	}
	return cost
}

// ranks returns, for each height, how many others come before it: lower ones, and the same ones of lesser rides.
func ranks(heights []int) []int {
	list := make([]int, len(heights))
	for i, a := range heights {
		for k, b := range heights {
			if b < a || b == a && k < i {
				list[i]++
			}
		}
	}
	return list
}

func ends(x hill) []int {
	var list []int
	for _, r := range x.rides {
		list = append(list, r.To)
	}
	return list
}

func starts(x hill) []int {
	var list []int
	for _, r := range x.rides {
		list = append(list, r.From)
	}
	return list
}

func slowMatching(x hill) []int {
	var list []int
	from := ranks(starts(x))
	for _, rank := range ranks(ends(x)) {
		list = append(list, slices.Index(from, rank))
	}
	return list
}

// matchingCost returns the cost of any matching.
func matchingCost(x hill, next []int) int {
	cost := 0
	for i, k := range next {
		cost += slowEmpty(x, i, k)
	}
	return cost
}

// inRing returns the rides that follow a ride sooner or later, ascending.
func inRing(next []int, i int) []int {
	ring := []int{i}
	for k := next[i]; k != i; k = next[k] {
		ring = append(ring, k)
	}
	slices.Sort(ring)
	return ring
}

func slowRings(x hill) [][]int {
	var rings [][]int
	next := slowMatching(x)
	for i := range next {
		if ring := inRing(next, i); ring[0] == i {
			rings = append(rings, ring)
		}
	}
	return rings
}

func slowGaps(x hill) []int {
	var gaps []int
	to, from := ends(x), starts(x)
	slices.Sort(to)
	slices.Sort(from)
	for k := range len(to) - 1 {
		high := 0
		for h := range api.MaxHeight {
			if h >= to[k] && h >= from[k] && h < to[k+1] && h < from[k+1] {
				high++
			}
		}
		gaps = append(gaps, (x.slope.Up+x.slope.Down)*high)
	}
	return gaps
}

// joinsAll reports whether a list of gaps joins all rings into one.
func joinsAll(x hill, list []int) bool {
	rank, ring := ranks(ends(x)), make([]int, len(x.rides))
	for number, rides := range slowRings(x) {
		for _, i := range rides {
			ring[i] = number
		}
	}
	for _, k := range list {
		a, b := ring[slices.Index(rank, k)], ring[slices.Index(rank, k+1)]
		for i := range ring {
			if ring[i] == a || ring[i] == b {
				ring[i] = min(a, b)
			}
		}
	}
	return slices.Max(ring) == slices.Min(ring)
}

// slowPatches tries all lists of gaps.
func slowPatches(x hill) ([]int, int) {
	var best []int
	least := -1
	gaps := slowGaps(x)
	for set := range 1 << len(gaps) {
		var list []int
		sum := 0
		for k, gap := range gaps {
			if set>>k&1 == 1 {
				list = append(list, k)
				sum += gap
			}
		}
		better := least < 0 || sum < least || sum == least && (len(list) < len(best) || len(list) == len(best) && slices.Compare(list, best) < 0)
		if better && joinsAll(x, list) {
			best, least = list, sum
		}
	}
	return best, least
}

// allOrders returns all orders of so many rides, in lexicographic order.
func allOrders(many int) [][]int {
	all := [][]int{nil}
	for range many {
		var longer [][]int
		for _, list := range all {
			for i := range many {
				if !slices.Contains(list, i) {
					longer = append(longer, append(slices.Clone(list), i))
				}
			}
		}
		all = longer
	}
	return all
}

// slowTour tries all orders that begin with ride 0.
func slowTour(x hill) ([]int, int) {
	var best []int
	least := -1
	for _, rest := range allOrders(len(x.rides) - 1) {
		order := []int{0}
		for _, i := range rest {
			order = append(order, i+1)
		}
		if cost := slowCost(x, order); least < 0 || cost < least {
			best, least = order, cost
		}
	}
	return best, least
}

// leastOrder returns the least cost of an order, from what it costs to make each set of rides and to end with each of them.
func leastOrder(x hill) int {
	n := len(x.rides)
	if n == 1 {
		return slowEmpty(x, 0, 0)
	}
	costs := map[[2]int]int{{1, 0}: 0}
	for set := 1; set < 1<<n; set += 2 {
		for last := range n {
			cost, ok := costs[[2]int{set, last}]
			if !ok {
				continue
			}
			for i := range n {
				longer := [2]int{set | 1<<i, i}
				if old, had := costs[longer]; set>>i&1 == 0 && (!had || cost+slowEmpty(x, last, i) < old) {
					costs[longer] = cost + slowEmpty(x, last, i)
				}
			}
		}
	}
	least := -1
	for last := 1; last < n; last++ {
		if cost := costs[[2]int{1<<n - 1, last}] + slowEmpty(x, last, 0); least < 0 || cost < least {
			least = cost
		}
	}
	return least
}

// leastMatching returns the least cost of a matching, from what it costs to let the first rides be followed by each set.
func leastMatching(x hill) int {
	n := len(x.rides)
	costs := map[int]int{0: 0}
	for i := range n {
		more := map[int]int{}
		for set, cost := range costs {
			for k := range n {
				if set>>k&1 == 1 {
					continue
				}
				sum := cost + slowEmpty(x, i, k)
				if old, had := more[set|1<<k]; !had || sum < old {
					more[set|1<<k] = sum
				}
			}
		}
		costs = more
	}
	return costs[1<<n-1]
}

// slowLevel counts the steps of each ride that pass a height.
func slowLevel(x hill, height int) (up, down int) {
	for _, r := range x.rides {
		for h := r.From; h < r.To; h++ {
			if h+1 == height {
				up++
			}
		}
		for h := r.From; h > r.To; h-- {
			if h == height {
				down++
			}
		}
	}
	return up, down
}
