package stand

import (
	"slices"
	"strconv"

	"trishaw/api"
	"trishaw/branch"
	"trishaw/shift"
	"trishaw/stamp"
	"trishaw/turn"
)

// change executes a command that changes the stand. Some of it may be done when the command is refused.
func (s *Stand) change(c any) string {
	switch c := c.(type) {
	case hiring:
		return s.hire(c)
	case calling:
		return s.call()
	case earning:
		return s.earn(c)
	case paving:
		return s.pave(c)
	case riding:
		return s.ride(c)
	case needing:
		return s.need(c)
	case stamping:
		return s.stamp(c)
	default:
		return ""
	}
}

func (s *Stand) hire(c hiring) string {
	refuseIf(s.find(c.name) >= 0, api.ErrExists)
	refuseIf(!within(c.share, 1, api.MaxShare), api.ErrArg)
	refuseIf(len(s.days) > 0, api.ErrState)
	refuseIf(len(s.drivers) == api.MaxDrivers, api.ErrFull)
	s.drivers = append(s.drivers, api.Driver{Name: c.name, Share: c.share})
	return strconv.Itoa(len(s.drivers))
}

// call calls the driver of the next day.
func (s *Stand) call() string {
	refuseIf(len(s.drivers) == 0, api.ErrNone)
	refuseIf(len(s.days) == api.MaxDays, api.ErrFull)
	days, e := turn.Fair(s.shares(), len(s.days)+1)
	refuse(e)
	i := days[len(s.days)]
	s.days = append(s.days, i)
	s.drivers[i].Called++
	return s.drivers[i].Name
}

func (s *Stand) earn(c earning) string {
	i := s.find(c.name)
	refuseIf(i < 0, api.ErrNone)
	refuseIf(!within(c.amount, 1, api.MaxCents), api.ErrArg)
	s.drivers[i].Earned += c.amount
	return strconv.Itoa(s.drivers[i].Earned)
}

func (s *Stand) pave(c paving) string {
	// A town of this street alone is one only if it is a street.
	_, e := branch.Reach(corners, []api.Way{c.way})
	refuse(e)
	refuseIf(len(s.ways) == api.MaxWays, api.ErrFull)
	s.ways = append(s.ways, c.way)
	return "ok"
}

func (s *Stand) ride(c riding) string {
	refuseIf(!within(c.ride.From, 0, api.MaxHeight) || !within(c.ride.To, 0, api.MaxHeight), api.ErrArg)
	refuseIf(len(s.rides) == api.MaxToured, api.ErrFull)
	s.rides = append(s.rides, c.ride)
	return strconv.Itoa(len(s.rides))
}

func (s *Stand) need(c needing) string {
	refuseIf(!within(c.hour, 0, hours-1) || !within(c.count, 0, api.MaxNeed), api.ErrArg)
	s.needs[c.hour] = c.count
	least, e := shift.Least(s.needs[:], long)
	refuse(e)
	return strconv.Itoa(least)
}

func (s *Stand) stamp(c stamping) string {
	refuseIf(!within(c.value, slices.Max(s.values)+1, api.MaxWorth), api.ErrRange)
	refuseIf(len(s.values) == api.MaxStamps, api.ErrFull)
	s.values = append(s.values, c.value)
	reach, e := stamp.Range(places, s.values)
	refuse(e)
	return strconv.Itoa(reach)
}

// find returns the index of the driver of a name, or -1.
func (s *Stand) find(name string) int {
	return slices.IndexFunc(s.drivers, func(d api.Driver) bool { return d.Name == name })
}

// shares returns the shares of all drivers.
func (s *Stand) shares() []int {
	list := make([]int, len(s.drivers))
	for i, d := range s.drivers {
		list[i] = d.Share
	}
	return list
}
