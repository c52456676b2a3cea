// Package turn is layer 1, turns that are fair at all times: see shared/doc/01-turn.md.
package turn

import (
	"trishaw/api"
	"trishaw/ratio"
)

// Deviation returns how far the counts of a list of days are ever from what is due.
func Deviation(shares, days []int) (api.Ratio, api.Errno) {
	if e := checkDays(shares, days); e != api.OK {
		return api.Ratio{}, e
	}
	return ratio.Lowest(furthest(shares, days), sum(shares)), api.OK
}

// Quota reports whether every count is always what is due, rounded down or up.
func Quota(shares, days []int) (bool, api.Errno) {
	if e := checkDays(shares, days); e != api.OK {
		return false, e
	}
	// The whole numbers that are less than 1 from a number are just the two it can be rounded to.
	return furthest(shares, days) < sum(shares), api.OK
}

// Greedy returns a list of many days in which each day calls the driver to whom most is owed.
func Greedy(shares []int, many int) ([]int, api.Errno) {
	if e := checkMany(shares, many); e != api.OK {
		return nil, e
	}
	all := func(claimant) bool { return true }
	most := func(a, b claimant) bool { return a.owed > b.owed }
	return called(shares, many, all, most), api.OK
}

// Fair returns a list of many days that is fair at all times (Tijdeman).
func Fair(shares []int, many int) ([]int, api.Errno) {
	if e := checkMany(shares, many); e != api.OK {
		return nil, e
	}
	if len(shares) == 1 {
		return make([]int, many), api.OK
	}
	total, slots := sum(shares), 2*len(shares)-2
	ripe := func(d claimant) bool { return d.owed*slots >= total }
	// slack is total * slots times 1 - u - due + count, so it stays a whole number.
	slack := func(d claimant) int { return total*(slots-1) - d.owed*slots }
	sooner := func(a, b claimant) bool { return slack(a)*b.share < slack(b)*a.share }
	return called(shares, many, ripe, sooner), api.OK
}

// Windows returns the windows of each driver for a bound.
func Windows(shares []int, bound api.Ratio) ([][]api.Window, api.Errno) {
	if e := checkBound(shares, bound); e != api.OK {
		return nil, e
	}
	return windows(shares, bound), api.OK
}

// Feasible reports whether some round deviates by at most the bound.
func Feasible(shares []int, bound api.Ratio) (bool, api.Errno) {
	if e := checkBound(shares, bound); e != api.OK {
		return false, e
	}
	return feasible(shares, bound), api.OK
}

// Least returns the least deviation of any round.
func Least(shares []int) (api.Ratio, api.Errno) {
	if e := checkShares(shares); e != api.OK {
		return api.Ratio{}, e
	}
	return ratio.Lowest(least(shares), sum(shares)), api.OK
}

// Round returns the lexicographically first of the rounds with the least deviation.
func Round(shares []int) ([]int, api.Errno) {
	if e := checkShares(shares); e != api.OK {
		return nil, e
	}
	total := sum(shares)
	left := windows(shares, api.Ratio{Num: least(shares), Den: total})
	round := make([]int, total)
	for day := range round {
		i := firstDriver(left, day)
		left[i] = left[i][1:]
		round[day] = i
	}
	return round, api.OK
}

// Merged returns days with driver b made driver a, and the drivers above b one less.
func Merged(days []int, a, b int) ([]int, api.Errno) {
	if len(days) > api.MaxDays {
		return nil, api.ErrLimit
	}
	if !areDrivers(days, api.MaxDrivers) || a < 0 || a >= b || b >= api.MaxDrivers {
		return nil, api.ErrArg
	}
	merged := make([]int, len(days))
	for i, driver := range days {
		switch {
		case driver == b:
			merged[i] = a
		case driver > b:
			merged[i] = driver - 1
		default:
			merged[i] = driver
		}
	}
	return merged, api.OK
}
