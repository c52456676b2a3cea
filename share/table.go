package share

import (
	"slices"

	"trishaw/api"
	"trishaw/ratio"
)

// table is the wishes: what each rickshaw is worth to each driver.
type table [][]int

func (t table) rent() int { return sum(t[0]) }

// worth returns the sum of the wishes of all drivers for their rickshaws.
func (t table) worth(rickshaws []int) int {
	worth := 0
	for i, k := range rickshaws {
		worth += t[i][k]
	}
	return worth
}

// assign returns the first of the assignments that are worth most, and what it is worth.
func (t table) assign() ([]int, int) {
	best := greatest(assignments(nil, len(t)), t.worth)
	return best.thing, best.order
}

// assignments returns all assignments of n rickshaws that begin with a list, in lexicographic order.
func assignments(begun []int, n int) [][]int {
	if len(begun) == n {
		return [][]int{slices.Clone(begun)}
	}
	var all [][]int
	for k := range n {
		if !slices.Contains(begun, k) {
			all = append(all, assignments(append(begun, k), n)...)
		}
	}
	return all
}

// steps returns, at x and y, by how much the rent of y can be above that of x before whoever has y by an assignment envies whoever has x.
func (t table) steps(rickshaws []int) [][]int {
	steps := make([][]int, len(t))
	for x := range steps {
		steps[x] = make([]int, len(t))
		for i, y := range rickshaws {
			steps[x][y] = t[i][y] - t[i][x]
		}
	}
	return steps
}

// dearer returns the least sums of steps from each rickshaw to each other one.
func (t table) dearer() [][]int {
	best, _ := t.assign()
	sums := t.steps(best)
	// A ring of steps is what the assignment loses if the drivers on it exchange their rickshaws, so it is never below 0.
	for x := range sums {
		for _, from := range sums {
			for y := range from {
				from[y] = min(from[y], from[x]+sums[x][y])
			}
		}
	}
	return sums
}

// rents returns the rents without envy in which the rent of a rickshaw is least.
func (t table) rents(k int) api.Parts {
	n := len(t)
	more := t.dearer()[k]
	nums := make([]int, n)
	// All others are as much dearer as they can be; n times each rent is whole.
	for l := range nums {
		nums[l] = t.rent() - sum(more) + n*more[l]
	}
	return ratio.Parts(nums, n)
}

// limits returns the least and the greatest rent of a rickshaw in rents without envy.
func (t table) limits(k int) (api.Ratio, api.Ratio) {
	more := t.dearer()
	above := 0
	for _, row := range more {
		above += row[k]
	}
	return ratio.Lowest(t.rent()-sum(more[k]), len(t)), ratio.Lowest(t.rent()+above, len(t))
}

// envy returns all pairs of a driver and a rickshaw that would be better for this driver than the own one.
func (t table) envy(rickshaws []int, rents api.Parts) []api.Pair {
	var pairs []api.Pair
	for i, wishes := range t {
		left := func(k int) int { return wishes[k]*rents.Den - rents.Nums[k] }
		for k := range wishes {
			if left(k) > left(rickshaws[i]) {
				pairs = append(pairs, api.Pair{A: i, B: k})
			}
		}
	}
	return pairs
}
