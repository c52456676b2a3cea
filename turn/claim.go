package turn

// claimant is a driver: the share, and what is owed (due less count, times the total to stay whole).
type claimant struct{ share, owed int }

// claim returns the index of the element that has the best claim to a day: of those that are open the first one that no other one goes before; -1 if none is open.
func claim[T any](list []T, open func(T) bool, before func(a, b T) bool) int {
	best := -1
	for i, x := range list {
		if open(x) && (best < 0 || before(x, list[best])) {
			best = i
		}
	}
	return best
}

// called returns a list of many days, each with the driver who has the best claim to it. Some driver must be open every day.
func called(shares []int, many int, open func(claimant) bool, before func(a, b claimant) bool) []int {
	drivers := make([]claimant, len(shares))
	days := make([]int, many)
	total := sum(shares)
	for day := range days {
		for i, share := range shares {
			drivers[i].share = share
			drivers[i].owed += share
		}
		i := claim(drivers, open, before)
		drivers[i].owed -= total
		days[day] = i
	}
	return days
}

// furthest returns the deviation of days, times the total of the shares.
func furthest(shares, days []int) int {
	total, most := sum(shares), 0
	owed := make([]int, len(shares))
	for _, driver := range days {
		owed[driver] -= total
		for i, share := range shares {
			owed[i] += share
			most = max(most, owed[i], -owed[i])
		}
	}
	return most
}
