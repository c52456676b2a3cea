package trip

import (
	"trishaw/api"
)

// checkRides returns the error of a list of rides, or OK.
func checkRides(rides []api.Ride) api.Errno {
	if len(rides) > api.MaxRides {
		return api.ErrLimit
	}
	if len(rides) == 0 {
		return api.ErrArg
	}
	for _, r := range rides {
		if !isHeight(r.From) || !isHeight(r.To) {
			return api.ErrArg
		}
	}
	return api.OK
}

// checkDay returns the error of the rides, then that of the slope.
func checkDay(rides []api.Ride, s api.Slope) api.Errno {
	if e := checkRides(rides); e != api.OK {
		return e
	}
	if !isToll(s.Up) || !isToll(s.Down) {
		return api.ErrArg
	}
	return api.OK
}

func isHeight(x int) bool { return x >= 0 && x <= api.MaxHeight }

func isToll(x int) bool { return x >= 0 && x <= api.MaxToll }

func isRide(i, many int) bool { return i >= 0 && i < many }

// isOrder reports whether a list has each of so many rides once.
func isOrder(order []int, many int) bool {
	if len(order) != many {
		return false
	}
	var had [api.MaxRides]bool
	for _, i := range order {
		if !isRide(i, many) || had[i] {
			return false
		}
		had[i] = true
	}
	return true
}
