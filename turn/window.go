package turn

import (
	"slices"
	"sort"

	"trishaw/api"
)

// noDays returns the window without days.
func noDays() api.Window { return api.Window{First: 0, Last: -1} }

// windows returns the windows of each driver for a bound from 0 to 1, which need not be in lowest terms.
func windows(shares []int, bound api.Ratio) [][]api.Window {
	total := sum(shares)
	all := make([][]api.Window, len(shares))
	for i, share := range shares {
		for k := 1; k <= share; k++ {
			all[i] = append(all[i], window(share, total, k, bound))
		}
	}
	return all
}

// window returns the window for the k-th day of a driver with that share.
func window(share, total, k int, bound api.Ratio) api.Window {
	// Day d is not too early if (d + 1) * pace is at least early, and not too late if d * pace is at most late.
	pace := share * bound.Den
	early := (k*bound.Den - bound.Num) * total
	late := ((k-1)*bound.Den + bound.Num) * total
	w := api.Window{
		First: max(0, (early+pace-1)/pace-1),
		Last:  min(total-1, late/pace),
	}
	if w.First > w.Last {
		return noDays()
	}
	return w
}

// feasible reports whether there is a round in which every driver's k-th day lies in their k-th window.
func feasible(shares []int, bound api.Ratio) bool {
	all := windows(shares, bound)
	for _, list := range all {
		for _, w := range list {
			if w == noDays() {
				return false
			}
		}
	}
	return met(all, 0)
}

// met reports whether the days from day on can be matched to the windows that are left, of which there are as many, and takes those that it matches out of left. A driver's windows begin and end in their order, so only the first one that is left has a claim; and as each of them takes one day, the one that ends soonest may always go first.
func met(left [][]api.Window, day int) bool {
	open := func(list []api.Window) bool { return len(list) > 0 && list[0].First <= day }
	sooner := func(a, b []api.Window) bool { return a[0].Last < b[0].Last }
	for ; slices.ContainsFunc(left, some); day++ {
		i := claim(left, open, sooner)
		if i < 0 || left[i][0].Last < day {
			return false
		}
		left[i] = left[i][1:]
	}
	return true
}

// some reports whether a list has a window.
func some(list []api.Window) bool { return len(list) > 0 }

// least returns the least deviation of any round, times the total of the shares. All deviations are whole then, and 1 is always enough.
func least(shares []int) int {
	total := sum(shares)
	return sort.Search(total, func(m int) bool {
		return feasible(shares, api.Ratio{Num: m, Den: total})
	})
}

// firstDriver returns the first driver whose next window has the day, and with whom all the later days can still be matched; -1 if there is none.
func firstDriver(left [][]api.Window, day int) int {
	for i, list := range left {
		if len(list) == 0 || list[0].First > day || list[0].Last < day {
			continue
		}
		rest := slices.Clone(left)
		rest[i] = list[1:]
		if met(rest, day+1) {
			return i
		}
	}
	return -1
}
