package turn_test

import (
	"fmt"
	"math"
	"math/big"
	"math/rand"
	"slices"

	"trishaw/api"
)

// What the chapter defines, written down once more with rational numbers and by trying everything.

func rat(a, b int) *big.Rat { return big.NewRat(int64(a), int64(b)) }

func ratio(x *big.Rat) api.Ratio {
	return api.Ratio{Num: int(x.Num().Int64()), Den: int(x.Denom().Int64())}
}

func value(r api.Ratio) *big.Rat { return rat(r.Num, r.Den) }

func total(shares []int) int {
	n := 0
	for _, x := range shares {
		n += x
	}
	return n
}

func due(shares []int, i, t int) *big.Rat { return rat(t*shares[i], total(shares)) }

func count(days []int, i, t int) int {
	n := 0
	for _, x := range days[:t] {
		if x == i {
			n++
		}
	}
	return n
}

func slowDeviation(shares, days []int) *big.Rat {
	most := new(big.Rat)
	for t := 1; t <= len(days); t++ {
		for i := range shares {
			d := due(shares, i, t)
			d.Sub(rat(count(days, i, t), 1), d).Abs(d)
			if d.Cmp(most) > 0 {
				most = d
			}
		}
	}
	return most
}

func slowQuota(shares, days []int) bool {
	for t := 1; t <= len(days); t++ {
		for i := range shares {
			down := t * shares[i] / total(shares)
			up := (t*shares[i] + total(shares) - 1) / total(shares)
			if c := count(days, i, t); c != down && c != up {
				return false
			}
		}
	}
	return true
}

func slowGreedy(shares []int, many int) []int {
	var days []int
	for t := 1; t <= many; t++ {
		best, most := -1, new(big.Rat)
		for i := range shares {
			d := due(shares, i, t)
			d.Sub(d, rat(count(days, i, t-1), 1))
			if best < 0 || d.Cmp(most) > 0 {
				best, most = i, d
			}
		}
		days = append(days, best)
	}
	return days
}

func slowFair(shares []int, many int) []int {
	if len(shares) == 1 {
		return make([]int, many)
	}
	u := rat(1, 2*len(shares)-2)
	var days []int
	for t := 1; t <= many; t++ {
		best, least := -1, new(big.Rat)
		for i := range shares {
			d := due(shares, i, t)
			d.Sub(d, rat(count(days, i, t-1), 1))
			if d.Cmp(u) < 0 {
				continue
			}
			key := rat(1, 1)
			key.Sub(key, u).Sub(key, d).Quo(key, rat(shares[i], 1))
			if best < 0 || key.Cmp(least) < 0 {
				best, least = i, key
			}
		}
		days = append(days, best)
	}
	return days
}

func slowWindow(shares []int, i, k int, bound api.Ratio) api.Window {
	w := api.Window{First: 0, Last: -1}
	for d := range total(shares) {
		up := due(shares, i, d+1)
		up.Add(up, value(bound))
		down := due(shares, i, d)
		down.Sub(down, value(bound))
		if rat(k, 1).Cmp(up) > 0 || rat(k-1, 1).Cmp(down) < 0 {
			continue
		}
		if w.Last < 0 {
			w.First = d
		}
		w.Last = d
	}
	return w
}

// allRounds returns all rounds in lexicographic order.
func allRounds(shares []int) [][]int {
	var all [][]int
	left := slices.Clone(shares)
	round := make([]int, 0, total(shares))
	var add func()
	add = func() {
		if len(round) == total(shares) {
			all = append(all, slices.Clone(round))
		}
		for i := range left {
			if left[i] == 0 {
				continue
			}
			left[i]--
			round = append(round, i)
			add()
			round = round[:len(round)-1]
			left[i]++
		}
	}
	add()
	return all
}

// slowLeast returns the least deviation of any round, and the first round that has it.
func slowLeast(shares []int) (*big.Rat, []int) {
	var least *big.Rat
	var first []int
	for _, round := range allRounds(shares) {
		if d := slowDeviation(shares, round); least == nil || d.Cmp(least) < 0 {
			least, first = d, round
		}
	}
	return least, first
}

// pathLeast is slowLeast for greater shares: it follows the counts instead of the rounds.
func pathLeast(shares []int) (*big.Rat, []int) {
	whole := total(shares)
	known := map[string]int{}
	var least func(counts []int) int
	least = func(counts []int) int {
		key := fmt.Sprint(counts)
		if x, ok := known[key]; ok {
			return x
		}
		here, after := 0, math.MaxInt
		for i, c := range counts {
			d := c*whole - total(counts)*shares[i]
			here = max(here, d, -d)
			if c < shares[i] {
				after = min(after, least(oneMore(counts, i)))
			}
		}
		if after < math.MaxInt {
			here = max(here, after)
		}
		known[key] = here
		return here
	}
	counts := make([]int, len(shares))
	best := least(counts)
	var round []int
	for len(round) < whole {
		i := 0
		for counts[i] == shares[i] || least(oneMore(counts, i)) > best {
			i++
		}
		counts = oneMore(counts, i)
		round = append(round, i)
	}
	return rat(best, whole), round
}

func oneMore(counts []int, i int) []int {
	more := slices.Clone(counts)
	more[i]++
	return more
}

// someShares returns lists of shares of all lengths, the same ones each time.
func someShares(many int) [][]int {
	r := rand.New(rand.NewSource(1))
	all := [][]int{{1}, {20}, {1, 1}, {20, 20}, {1, 20}, {20, 1}, {1, 2, 3, 4, 5, 6, 7, 8}, {20, 20, 20, 20, 20, 20, 20, 20}, {1, 1, 1, 1, 1, 1, 1, 20}}
	for range many {
		all = append(all, randomShares(r, api.MaxDrivers, api.MaxShare))
	}
	return all
}

func randomShares(r *rand.Rand, drivers, most int) []int {
	shares := make([]int, 1+r.Intn(drivers))
	for i := range shares {
		shares[i] = 1 + r.Intn(most)
	}
	return shares
}

// smallShares returns all lists of shares with a total of at most most.
func smallShares(most int) [][]int {
	var all [][]int
	var add func(list []int, left int)
	add = func(list []int, left int) {
		if len(list) > 0 {
			all = append(all, slices.Clone(list))
		}
		if len(list) == api.MaxDrivers {
			return
		}
		for x := 1; x <= left; x++ {
			add(append(slices.Clone(list), x), left-x)
		}
	}
	add(nil, most)
	return all
}

func randomDays(r *rand.Rand, drivers, many int) []int {
	days := make([]int, many)
	for i := range days {
		days[i] = r.Intn(drivers)
	}
	return days
}

// someBounds returns bounds from 0 to 1, both of them too.
func someBounds() []api.Ratio {
	all := []api.Ratio{{Num: 0, Den: 1}, {Num: 1, Den: 1}, {Num: 1, Den: api.MaxPart}, {Num: api.MaxPart - 1, Den: api.MaxPart}, {Num: 4999999, Den: 9999999}}
	for den := 2; den <= 9; den++ {
		for num := 1; num < den; num++ {
			if x := rat(num, den); x.Denom().Int64() == int64(den) {
				all = append(all, ratio(x))
			}
		}
	}
	return all
}
