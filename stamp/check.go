package stamp

import (
	"slices"

	"trishaw/api"
)

// mostSearched is the greatest number of values that Best looks for.
const mostSearched = 4

// checkPlaces returns the error of a number of places, or OK.
func checkPlaces(h int) api.Errno {
	if h < 1 || h > api.MaxPlaces {
		return api.ErrArg
	}
	return api.OK
}

// checkValues returns the error of values, or OK.
func checkValues(values []int) api.Errno {
	if len(values) > api.MaxStamps {
		return api.ErrLimit
	}
	if len(values) == 0 {
		return api.ErrArg
	}
	last := 0
	for _, v := range values {
		if v <= last || v > api.MaxWorth {
			return api.ErrArg
		}
		last = v
	}
	return api.OK
}

// checkTicket returns the error of a number of places, then that of values.
func checkTicket(h int, values []int) api.Errno {
	if e := checkPlaces(h); e != api.OK {
		return e
	}
	return checkValues(values)
}

// checkAmount returns the error of places and values, then that of an amount.
func checkAmount(h int, values []int, amount int) api.Errno {
	if e := checkTicket(h, values); e != api.OK {
		return e
	}
	if amount < 0 || amount > h*slices.Max(values) {
		return api.ErrRange
	}
	return api.OK
}

// checkSearch returns the error of a number of places, then that of a number of values that are looked for.
func checkSearch(h, k int) api.Errno {
	if e := checkPlaces(h); e != api.OK {
		return e
	}
	if k < 1 || k > mostSearched || h*k > api.MaxSearch {
		return api.ErrArg
	}
	return api.OK
}
