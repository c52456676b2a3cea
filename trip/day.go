package trip

import (
	"cmp"
	"iter"
	"slices"

	"trishaw/api"
)

// day is the hills with a slope.
type day struct {
	hills
	slope api.Slope
}

func newDay(rides []api.Ride, s api.Slope) day { return day{newHills(rides), s} }

// empty returns what it costs to go empty from ride i to ride k.
func (d day) empty(i, k int) int {
	up := d.rides[k].From - d.rides[i].To
	if up > 0 {
		return d.slope.Up * up
	}
	return d.slope.Down * -up
}

// around returns the cost of an order.
func (d day) around(order []int) int {
	cost := 0
	for k, i := range order {
		cost += d.empty(i, order[(k+1)%len(order)])
	}
	return cost
}

// matched returns the cost of the sorted matching.
func (d day) matched() int {
	cost := 0
	for i, k := range d.followers() {
		cost += d.empty(i, k)
	}
	return cost
}

// gap returns what it costs more if the rides with the k-th lowest end and the next one exchange those that follow them.
func (d day) gap(k int) int { return (d.slope.Up + d.slope.Down) * d.free(k) }

func (d day) gaps() []int {
	gaps := make([]int, len(d.rides)-1)
	for k := range gaps {
		gaps[k] = d.gap(k)
	}
	return gaps
}

// compare puts the cheaper gap first, of two that cost the same the lesser one.
func (d day) compare(a, b int) int {
	return cmp.Or(cmp.Compare(d.gap(a), d.gap(b)), cmp.Compare(a, b))
}

// patches returns the gaps that join all rings with the least sum, and this sum.
func (d day) patches() ([]int, int) {
	// Taking each gap that still joins two rings, in this order, gives the first of all such lists.
	all := indices(len(d.rides) - 1)
	slices.SortFunc(all, d.compare)
	var list []int
	sum := 0
	ring := d.ringOf()
	for _, k := range all {
		a, b := ring[d.ends[k]], ring[d.ends[k+1]]
		if a == b {
			continue
		}
		replace(ring, b, a)
		list = append(list, k)
		sum += d.gap(k)
	}
	slices.Sort(list)
	return list, sum
}

// replace replaces one number by another one throughout a list.
func replace(list []int, before, after int) {
	for i, x := range list {
		if x == before {
			list[i] = after
		}
	}
}

// tour returns the first of the orders with the least cost, and this cost.
func (d day) tour() ([]int, int) {
	var best []int
	least := 0
	for order := range orders(len(d.rides)) {
		if cost := d.around(order); best == nil || cost < least {
			best, least = order, cost
		}
	}
	return best, least
}

// orders yields all orders of so many rides that begin with ride 0, in lexicographic order.
func orders(many int) iter.Seq[[]int] {
	return func(yield func([]int) bool) { extend([]int{0}, many, yield) }
}

// extend yields all orders that begin with a list, in lexicographic order, and reports whether more are wanted.
func extend(list []int, many int, yield func([]int) bool) bool {
	if len(list) == many {
		return yield(slices.Clone(list))
	}
	for i := range many {
		if !slices.Contains(list, i) && !extend(append(list, i), many, yield) {
			return false
		}
	}
	return true
}
