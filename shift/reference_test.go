package shift_test

import (
	"cmp"
	"iter"
	"math/big"
	"math/rand"
	"slices"

	"trishaw/api"
)

// What the chapter defines, written down once more, by trying everything.

// day is needs, and how long a shift is.
type day struct {
	needs []int
	long  int
}

// randomDay returns a day of so many hours with needs up to a greatest one, which are sometimes almost the same.
func randomDay(r *rand.Rand, hours, top int) day {
	d := day{make([]int, hours), 1 + r.Intn(hours)}
	often, even := 1+r.Intn(4), r.Intn(3) == 0
	for h := range d.needs {
		switch {
		case even:
			d.needs[h] = max(0, top-r.Intn(2))
		case r.Intn(often) == 0:
			d.needs[h] = r.Intn(top + 1)
		}
	}
	return d
}

// someDays returns days of 1 to 12 hours, the same ones each time.
func someDays(many int) []day {
	r := rand.New(rand.NewSource(1))
	var all []day
	for len(all) < many {
		top := []int{0, 1, 2, 4, 9, 20, 49, 50}[r.Intn(8)]
		all = append(all, randomDay(r, 1+r.Intn(api.MaxHours), top))
	}
	return all
}

// smallDays returns days for which all plans of the least size, and of a few more, can be tried.
func smallDays(many int) []day {
	r := rand.New(rand.NewSource(2))
	var all []day
	for len(all) < many {
		hours := 1 + r.Intn(api.MaxHours)
		d := randomDay(r, hours, 1+r.Intn(1+20/hours))
		if plansOf(hours, easySize(d)+3) < 20000 {
			all = append(all, d)
		}
	}
	return all
}

// easySize returns the size of some plan that is enough: whoever is still missing in an hour begins in it.
func easySize(d day) int {
	plan := make([]int, len(d.needs))
	size := 0
	for h := range d.needs {
		missing := max(0, -slowSpare(d, plan)[h])
		plan[h] += missing
		size += missing
	}
	return size
}

// plansOf returns how many plans of a size there are.
func plansOf(hours, size int) int {
	return int(new(big.Int).Binomial(int64(size+hours-1), int64(hours-1)).Int64())
}

// inShift reports whether an hour is in the shift from another one.
func inShift(d day, start, hour int) bool {
	for k := range d.long {
		if (start+k)%len(d.needs) == hour {
			return true
		}
	}
	return false
}

func slowSpare(d day, plan []int) []int {
	var spare []int
	for hour, need := range d.needs {
		there := 0
		for start, many := range plan {
			if inShift(d, start, hour) {
				there += many
			}
		}
		spare = append(spare, there-need)
	}
	return spare
}

func slowEnough(d day, plan []int) bool { return slices.Min(slowSpare(d, plan)) >= 0 }

func slowSize(plan []int) int {
	size := 0
	for _, many := range plan {
		size += many
	}
	return size
}

// allPlans yields all plans of a size, in lexicographic order.
func allPlans(hours, size int) iter.Seq[[]int] {
	return func(yield func([]int) bool) {
		var longer func(plan []int, left int) bool
		longer = func(plan []int, left int) bool {
			if len(plan) == hours-1 {
				return yield(append(slices.Clone(plan), left))
			}
			for many := range left + 1 {
				if !longer(append(plan, many), left-many) {
					return false
				}
			}
			return true
		}
		longer(nil, size)
	}
}

// slowWith returns the first of all plans of a size that is enough; nil if there is none.
func slowWith(d day, size int) []int {
	for plan := range allPlans(len(d.needs), size) {
		if slowEnough(d, plan) {
			return plan
		}
	}
	return nil
}

// slowPlan tries all sizes, and all plans of each.
func slowPlan(d day) []int {
	for size := 0; ; size++ {
		if plan := slowWith(d, size); plan != nil {
			return plan
		}
	}
}

func slowReach(d day, proof []int) int {
	reach := 0
	for start := range d.needs {
		many := 0
		for _, hour := range proof {
			if inShift(d, start, hour) {
				many++
			}
		}
		reach = max(reach, many)
	}
	return reach
}

// slowWorth returns the least number that is, times the reach, at least the sum of the needs.
func slowWorth(d day, proof []int) int {
	needed, reach, worth := 0, slowReach(d, proof), 0
	for _, hour := range proof {
		needed += d.needs[hour]
	}
	for worth*reach < needed {
		worth++
	}
	return worth
}

// slowShare returns what all needs are worth at most, at prices of the hours from 0 on with which no shift is worth more
// than 1 (by duality this is Share). It is found by the simplex method, in rational numbers.
func slowShare(d day) api.Ratio {
	n := len(d.needs)
	rows, base := pricing(d), make([]int, n)
	for k := range base {
		base[k] = n + k
	}
	for {
		in := slices.IndexFunc(rows[n][:2*n], func(x *big.Rat) bool { return x.Sign() > 0 })
		if in < 0 {
			break
		}
		out := -1
		for k, row := range rows[:n] {
			if row[in].Sign() > 0 && (out < 0 || cmp.Or(room(row, in).Cmp(room(rows[out], in)), cmp.Compare(base[k], base[out])) < 0) {
				out = k
			}
		}
		base[out] = in
		pivot(rows, out, in)
	}
	least := new(big.Rat).Neg(rows[n][2*n])
	return api.Ratio{Num: int(least.Num().Int64()), Den: int(least.Denom().Int64())}
}

// pricing returns a row for each shift (the prices in it and a rest sum up to 1), and one for the needs.
func pricing(d day) [][]*big.Rat {
	n := len(d.needs)
	rows := make([][]*big.Rat, n+1)
	for k := range rows {
		rows[k] = make([]*big.Rat, 2*n+1)
		for i := range rows[k] {
			rows[k][i] = new(big.Rat)
			if k < n && (i < n && inShift(d, k, i) || i == n+k || i == 2*n) {
				rows[k][i].SetInt64(1)
			}
			if k == n && i < n {
				rows[k][i].SetInt64(int64(d.needs[i]))
			}
		}
	}
	return rows
}

// room returns how far a column can grow until the one that a row is based on is 0.
func room(row []*big.Rat, in int) *big.Rat { return new(big.Rat).Quo(row[len(row)-1], row[in]) }

// pivot makes a column 1 in one row and 0 in all others.
func pivot(rows [][]*big.Rat, out, in int) {
	by := new(big.Rat).Inv(rows[out][in])
	for _, x := range rows[out] {
		x.Mul(x, by)
	}
	for k, row := range rows {
		by := new(big.Rat).Set(row[in])
		for i, x := range row {
			if k != out {
				x.Sub(x, new(big.Rat).Mul(by, rows[out][i]))
			}
		}
	}
}

// slowTurned takes the first hour to the end, or the last one to the front, again and again.
func slowTurned(needs []int, by int) []int {
	list := slices.Clone(needs)
	last := len(list) - 1
	for ; by > 0; by-- {
		list = append(list[1:], list[0])
	}
	for ; by < 0; by++ {
		list = append([]int{list[last]}, list[:last]...)
	}
	return list
}

// backwards returns the needs read backwards.
func backwards(d day) day {
	needs := slices.Clone(d.needs)
	slices.Reverse(needs)
	return day{needs, d.long}
}
