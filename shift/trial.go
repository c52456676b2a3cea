package shift

import (
	"slices"

	"trishaw/api"
)

// trial is a clock and a total that is tried, which is a system of differences. Its unknowns are how many drivers begin
// before each hour, from the hour 0 on. None is below the one of the hour before; and between an hour and the end of
// the shift from it as many begin as the last hour of this shift needs.
type trial struct {
	clock
	size int
}

// table is a number for each hour; beyond the last hour there is nothing.
type table [api.MaxHours]int

// before returns how many begin before an hour; one below 0 is an hour of the day before.
func (t trial) before(sums table, hour int) int {
	if hour < 0 {
		return sums[hour+len(t.needs)] - t.size
	}
	return sums[hour]
}

// needed returns how many must begin before an hour so that the hour before it has as many as it needs.
func (t trial) needed(sums table, hour int) int {
	return t.before(sums, hour-t.long) + t.needs[t.around(hour-1)]
}

// raised returns the sums, each raised to what the old ones ask for.
func (t trial) raised(old table) table {
	sums := old
	for hour := range t.needs {
		sums[hour] = max(old[hour], t.before(old, hour-1), t.needed(old, hour))
	}
	return sums
}

// rounds returns the sums, all 0 at first, and then raised once for each hour.
func (t trial) rounds() [api.MaxHours + 1]table {
	var rounds [api.MaxHours + 1]table
	for k := range t.needs {
		rounds[k+1] = t.raised(rounds[k])
	}
	return rounds
}

// settled returns the last sums, and whether the last round left them as they were. Then they are the least that meet
// all conditions; if it did not, some conditions form a ring that raises them for ever.
func (t trial) settled() (table, bool) {
	rounds := t.rounds()
	hours := len(t.needs)
	return rounds[hours], rounds[hours] == rounds[hours-1]
}

func (t trial) succeeds() bool {
	_, ok := t.settled()
	return ok
}

// plan returns the lexicographically least plan with this total that is enough, and whether there is one.
func (t trial) plan() ([]int, bool) {
	sums, ok := t.settled()
	if !ok {
		return nil, false
	}
	hours := len(t.needs)
	plan := make([]int, hours)
	copy(plan, sums[1:hours])
	plan[hours-1] = t.size
	for hour := range plan {
		plan[hour] -= sums[hour]
	}
	return plan, true
}

// proof returns the hours whose needs are on a ring that raises the sums for ever, for a total that is too small.
func (t trial) proof() []int {
	rounds := t.rounds()
	last, hour := len(t.needs), 0
	for rounds[last][hour] == rounds[last-1][hour] {
		hour++
	}
	// What a round raised, it raised because of what the round before it raised. So the way back to the first round
	// is longer than there are hours, and goes around a ring from one hour to the same one again.
	var proof []int
	met := slices.Repeat([]int{-1}, len(t.needs))
	for k := last; met[hour] < 0; k-- {
		met[hour] = len(proof)
		if rounds[k][hour] == t.needed(rounds[k-1], hour) {
			proof = append(proof, t.around(hour-1))
			hour = t.around(hour - t.long)
		} else {
			hour = t.around(hour - 1)
		}
	}
	return proof[met[hour]:]
}
