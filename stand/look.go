package stand

import (
	"slices"
	"strconv"

	"trishaw/api"
	"trishaw/branch"
	"trishaw/shift"
	"trishaw/stamp"
	"trishaw/trip"
	"trishaw/turn"
)

// lastDays is how many days a log shows.
const lastDays = 10

// What each step up and each step down costs.
const (
	up   = 2
	down = 1
)

// look executes a command that only looks.
func (s *Stand) look(c any) string {
	switch c := c.(type) {
	case logging:
		return s.log()
	case branching:
		return s.branch()
	case narrowing:
		return s.narrow()
	case touring:
		return s.tour()
	case shifting:
		return s.shifts()
	case paying:
		return s.pay(c)
	case jamming:
		return jammed(c)
	case parting:
		return parted(c)
	case rounding:
		return round(c)
	case mending:
		return mend(c)
	case auditing:
		return report(s.Audit())
	case wondering:
		return s.Copy().answer(c.words)
	default:
		return ""
	}
}

// log returns the names of the drivers of the last days.
func (s *Stand) log() string {
	last := s.days[max(0, len(s.days)-lastDays):]
	return listed(last, func(i int) string { return s.drivers[i].Name })
}

func (s *Stand) branch() string {
	list, cost, e := branch.Branching(corners, s.ways)
	refuse(e)
	return with(numbers(list...), strconv.Itoa(cost))
}

func (s *Stand) narrow() string {
	width, set, e := branch.Narrow(corners, s.ways)
	refuse(e)
	return numbers(width, set)
}

func (s *Stand) tour() string {
	refuseIf(len(s.rides) == 0, api.ErrNone)
	order, cost, e := trip.Tour(s.rides, api.Slope{Up: up, Down: down})
	refuse(e)
	return with(numbers(order...), strconv.Itoa(cost))
}

func (s *Stand) shifts() string {
	plan, e := shift.Plan(s.needs[:], long)
	refuse(e)
	return numbers(plan...)
}

func (s *Stand) pay(c paying) string {
	list, e := stamp.Pay(places, s.values, c.amount)
	refuse(e)
	return numbers(list...)
}

// isGood reports whether the days were fair, and each driver was called as often as is counted.
func (s *Stand) isGood() bool {
	if len(s.days) == 0 {
		return true
	}
	called := make([]int, len(s.drivers))
	for _, i := range s.days {
		called[i]++
	}
	counted := func(d api.Driver, many int) bool { return d.Called == many }
	worst, e := turn.Deviation(s.shares(), s.days)
	return e == api.OK && worst.Num < worst.Den && slices.EqualFunc(s.drivers, called, counted)
}
