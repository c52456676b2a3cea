package stamp_test

import (
	"math/rand"
	"slices"

	"trishaw/api"
)

// What the chapter defines, written down once more, by trying everything.

// ticket is a number of places and the values of the stamps.
type ticket struct {
	h      int
	values []int
}

func (x ticket) greatest() int { return x.values[len(x.values)-1] }

// most is the greatest amount that may be asked for.
func (x ticket) most() int { return x.h * x.greatest() }

// allLists returns all ascending lists of at most h stamps, by choosing how many there are of each value.
func allLists(x ticket) [][]int {
	all := [][]int{nil}
	for _, v := range x.values {
		var more [][]int
		for _, l := range all {
			for many := range x.h - len(l) + 1 {
				more = append(more, slices.Concat(l, slices.Repeat([]int{v}, many)))
			}
		}
		all = more
	}
	return all
}

func sum(l []int) int {
	s := 0
	for _, x := range l {
		s += x
	}
	return s
}

// paying returns the lists for each amount.
func paying(x ticket) [][][]int {
	lists := make([][][]int, x.most()+1)
	for _, l := range allLists(x) {
		lists[sum(l)] = append(lists[sum(l)], l)
	}
	return lists
}

// slowPay returns the shortest of the lists, of several the lexicographically greatest one.
func slowPay(lists [][]int) []int {
	best := lists[0]
	for _, l := range lists {
		if len(l) < len(best) || len(l) == len(best) && slices.Compare(l, best) > 0 {
			best = l
		}
	}
	return best
}

// slowRange counts up, with the fewest stamps for each amount, as long as they are few enough.
func slowRange(h int, values []int) int {
	fewest := []int{0}
	for amount := 1; ; amount++ {
		least := h + 1
		for _, v := range values {
			if v <= amount {
				least = min(least, fewest[amount-v]+1)
			}
		}
		if least > h {
			return amount - 1
		}
		fewest = append(fewest, least)
	}
}

// slowBest returns the first of all lists of k values below limit with the greatest range.
func slowBest(h, k, limit int) ([]int, int) {
	var best []int
	most := -1
	var try func(values []int, from int)
	try = func(values []int, from int) {
		if len(values) == k {
			if n := slowRange(h, values); n > most {
				best, most = slices.Clone(values), n
			}
			return
		}
		for v := from; v < limit; v++ {
			try(append(values, v), v+1)
		}
	}
	try(nil, 1)
	return best, most
}

// slowNext returns the first value that adds most.
func slowNext(x ticket) (int, int) {
	best, most := 0, -1
	for v := 1; v <= 200; v++ {
		if n := slowRange(x.h, append(slices.Clone(x.values), v)); n > most && !slices.Contains(x.values, v) {
			best, most = v, n
		}
	}
	return best, most
}

// greedyPays takes the greatest value that fits, again and again.
func greedyPays(x ticket, amount int) bool {
	for range x.h {
		fits := 0
		for _, v := range x.values {
			if v <= amount {
				fits = v
			}
		}
		amount -= fits
	}
	return amount == 0
}

// choose returns in how many ways k of n can be chosen.
func choose(n, k int) int {
	if k == 0 || k == n {
		return 1
	}
	return choose(n-1, k-1) + choose(n-1, k)
}

// smallTickets returns all tickets with values up to 7.
func smallTickets() []ticket {
	var all []ticket
	for set := 1; set < 1<<7; set++ {
		var values []int
		for i := range 7 {
			if set>>i&1 == 1 {
				values = append(values, i+1)
			}
		}
		for h := 1; h <= api.MaxPlaces && len(values) <= api.MaxStamps; h++ {
			all = append(all, ticket{h, values})
		}
	}
	return all
}

// randomValues returns that many values up to limit.
func randomValues(r *rand.Rand, many, limit int) []int {
	values := r.Perm(limit)[:many]
	for i := range values {
		values[i]++
	}
	slices.Sort(values)
	return values
}

// chain returns values of which each is not far above the range of those before it.
func chain(r *rand.Rand, h, many int) []int {
	values := []int{1}
	for len(values) < many {
		last := values[len(values)-1]
		high := min(slowRange(h, values)+1, api.MaxWorth-many+len(values))
		values = append(values, max(last+1, high-r.Intn(3)))
	}
	return values
}

// someTickets returns tickets of all kinds, the same ones each time.
func someTickets(many int) []ticket {
	r := rand.New(rand.NewSource(1))
	all := []ticket{
		{1, []int{1}}, {6, []int{1}}, {1, []int{200}}, {6, []int{200}}, {6, []int{1, 200}}, {6, []int{199, 200}},
		{6, []int{1, 2, 3, 4, 5, 6}}, {6, []int{195, 196, 197, 198, 199, 200}}, {1, []int{1, 2, 3, 4, 5, 6}},
		{2, []int{1, 3}}, {2, []int{1, 3, 4}}, {2, []int{1, 2, 3}}, {6, []int{1, 7, 12, 43, 52}}, {6, []int{1, 7, 11, 48, 83, 115}},
	}
	for i := range many {
		h, k := 1+r.Intn(api.MaxPlaces), 1+i%api.MaxStamps
		all = append(all, ticket{h, randomValues(r, k, []int{7, 12, 30, api.MaxWorth}[i/6%4])}, ticket{h, chain(r, h, k)})
	}
	return all
}
