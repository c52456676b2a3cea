package turn_test

import (
	"fmt"
	"math/big"
	"math/rand"
	"slices"
	"testing"

	"trishaw/api"
	"trishaw/turn"
)

// fairLimit returns 1 - u, or 0 for one driver.
func fairLimit(drivers int) *big.Rat {
	if drivers == 1 {
		return new(big.Rat)
	}
	return rat(2*drivers-3, 2*drivers-2)
}

func deviation(t *testing.T, shares, days []int) *big.Rat {
	t.Helper()
	d, e := turn.Deviation(shares, days)
	same(t, fmt.Sprint("Deviation's error ", shares, days), e, api.OK)
	return value(d)
}

func least(t *testing.T, shares []int) *big.Rat {
	t.Helper()
	d, e := turn.Least(shares)
	same(t, fmt.Sprint("Least's error ", shares), e, api.OK)
	return value(d)
}

func TestP1_6(t *testing.T) {
	for _, shares := range slices.Concat(smallShares(8), someShares(500)) {
		days, _ := turn.Fair(shares, api.MaxDays)
		if d := deviation(t, shares, days); len(days) != api.MaxDays || d.Cmp(fairLimit(len(shares))) > 0 {
			t.Error("Fair deviates too much:", shares, d)
		}
		q, e := turn.Quota(shares, days)
		same(t, fmt.Sprint("Quota of Fair ", shares), []any{q, e}, []any{true, api.OK})
	}
}

func TestP1_7(t *testing.T) {
	for _, shares := range slices.Concat(smallShares(8), someShares(500)) {
		days, _ := turn.Fair(shares, api.MaxDays)
		long := total(shares)
		for from := 0; from < len(days); from += long {
			part := days[from:min(from+long, len(days))]
			same(t, fmt.Sprint("Fair of ", shares, " from ", from), part, days[:len(part)])
		}
		for i, share := range shares {
			same(t, fmt.Sprint("calls of driver ", i, " of ", shares), count(days, i, long), share)
		}
	}
}

// inWindows reports whether every driver's k-th day of a round lies in their k-th window.
func inWindows(all [][]api.Window, round []int) bool {
	next := make([]int, len(all))
	for day, i := range round {
		if w := all[i][next[i]]; day < w.First || day > w.Last {
			return false
		}
		next[i]++
	}
	return true
}

func TestP1_8(t *testing.T) {
	for _, shares := range [][]int{{1}, {3}, {1, 1}, {3, 1}, {2, 3}, {1, 1, 1}, {2, 1, 2}, {1, 2, 3}, {1, 1, 1, 2}} {
		for _, bound := range someBounds() {
			all, _ := turn.Windows(shares, bound)
			for _, round := range allRounds(shares) {
				want := deviation(t, shares, round).Cmp(value(bound)) <= 0
				same(t, fmt.Sprint("windows of ", shares, bound, round), inWindows(all, round), want)
			}
		}
	}
}

func TestP1_8Contained(t *testing.T) {
	bounds := someBounds()
	slices.SortFunc(bounds, func(a, b api.Ratio) int { return value(a).Cmp(value(b)) })
	for _, shares := range slices.Concat(smallShares(5), someShares(20)) {
		small, _ := turn.Windows(shares, bounds[0])
		for _, bound := range bounds[1:] {
			great, _ := turn.Windows(shares, bound)
			for i := range small {
				for k, w := range small[i] {
					if v := great[i][k]; w.First <= w.Last && (v.First > w.First || v.Last < w.Last) {
						t.Error("a window shrinks:", shares, bound, w, v)
					}
				}
			}
			small = great
		}
	}
}

func TestP1_9(t *testing.T) {
	for _, shares := range slices.Concat(smallShares(7), someShares(60)) {
		x := least(t, shares)
		low := rat(total(shares)-slices.Max(shares), total(shares))
		if x.Cmp(low) < 0 || x.Cmp(fairLimit(len(shares))) > 0 {
			t.Error("Least is out of its bounds:", shares, x)
		}
		if scaled := new(big.Rat).Mul(x, rat(total(shares), 1)); !scaled.IsInt() {
			t.Error("Least is no multiple of 1 / total:", shares, x)
		}
		ok, e := turn.Feasible(shares, ratio(x))
		same(t, fmt.Sprint("Feasible for Least ", shares), []any{ok, e}, []any{true, api.OK})
		for _, less := range []*big.Rat{rat(1, total(shares)), rat(1, 10000)} {
			if less.Sub(x, less); less.Sign() >= 0 {
				ok, e := turn.Feasible(shares, ratio(less))
				same(t, fmt.Sprint("Feasible for less ", shares, less), []any{ok, e}, []any{false, api.OK})
			}
		}
		round, _ := turn.Round(shares)
		if d := deviation(t, shares, round); d.Cmp(x) != 0 {
			t.Error("Round does not have the least deviation:", shares, round, d, x)
		}
		for i, share := range shares {
			same(t, fmt.Sprint("calls of driver ", i, " in Round ", shares), count(round, i, len(round)), share)
		}
	}
}

func TestP1_10Merged(t *testing.T) {
	r := rand.New(rand.NewSource(3))
	for range 2000 {
		shares := randomShares(r, api.MaxDrivers-1, api.MaxShare/2)
		shares = append(shares, 1+r.Intn(api.MaxShare/2))
		days := randomDays(r, len(shares), r.Intn(40))
		if r.Intn(2) == 0 {
			days, _ = turn.Fair(shares, 40)
		}
		b := 1 + r.Intn(len(shares)-1)
		a := r.Intn(b)
		merged, e := turn.Merged(days, a, b)
		same(t, "Merged's error", e, api.OK)
		added := slices.Delete(slices.Clone(shares), b, b+1)
		added[a] += shares[b]
		twice := new(big.Rat).Mul(rat(2, 1), deviation(t, shares, days))
		if d := deviation(t, added, merged); d.Cmp(twice) > 0 {
			t.Error("merging deviates too much:", shares, days, a, b, d, twice)
		}
	}
}

func TestP1_10Renumbered(t *testing.T) {
	r := rand.New(rand.NewSource(4))
	for i := range 300 {
		shares := randomShares(r, api.MaxDrivers, api.MaxShare)
		days := randomDays(r, len(shares), r.Intn(30))
		if i%2 == 0 {
			days, _ = turn.Fair(shares, 30)
		}
		order := r.Perm(len(shares))
		moved, movedDays := make([]int, len(shares)), make([]int, len(days))
		for i, x := range shares {
			moved[order[i]] = x
		}
		for i, x := range days {
			movedDays[i] = order[x]
		}
		a, _ := turn.Quota(shares, days)
		b, _ := turn.Quota(moved, movedDays)
		same(t, fmt.Sprint("Quota ", shares, days, order), b, a)
		c, _ := turn.Deviation(shares, days)
		d, _ := turn.Deviation(moved, movedDays)
		same(t, fmt.Sprint("Deviation ", shares, days, order), d, c)
		e, _ := turn.Least(shares)
		f, _ := turn.Least(moved)
		same(t, fmt.Sprint("Least ", shares, order), f, e)
	}
}
