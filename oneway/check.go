package oneway

import (
	"trishaw/api"
	"trishaw/street"
)

// checkQuarter returns the error of a quarter, or OK.
func checkQuarter(n int, streets []api.Pair) api.Errno {
	if n < 1 || n > api.MaxCorners {
		return api.ErrArg
	}
	if len(streets) > api.MaxStreets {
		return api.ErrLimit
	}
	if !street.Join(n, streets) {
		return api.ErrArg
	}
	return api.OK
}

// checkSigns returns the error of a quarter, then that of all signs, in order.
func checkSigns(n int, streets []api.Pair, all ...string) api.Errno {
	if e := checkQuarter(n, streets); e != api.OK {
		return e
	}
	for _, signs := range all {
		if !areSigns(signs, len(streets)) {
			return api.ErrForm
		}
	}
	return api.OK
}

// areSigns reports whether a string is the signs of many streets.
func areSigns(signs string, many int) bool {
	if len(signs) != many {
		return false
	}
	for _, sign := range signs {
		if sign != '<' && sign != '>' {
			return false
		}
	}
	return true
}
