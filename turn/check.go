package turn

import (
	"trishaw/api"
	"trishaw/ratio"
)

// checkShares returns the error of shares, or OK.
func checkShares(shares []int) api.Errno {
	if len(shares) > api.MaxDrivers {
		return api.ErrLimit
	}
	if len(shares) == 0 {
		return api.ErrArg
	}
	for _, share := range shares {
		if share < 1 || share > api.MaxShare {
			return api.ErrArg
		}
	}
	return api.OK
}

// checkDays returns the error of shares, then that of days.
func checkDays(shares, days []int) api.Errno {
	if e := checkShares(shares); e != api.OK {
		return e
	}
	if len(days) > api.MaxDays {
		return api.ErrLimit
	}
	if !areDrivers(days, len(shares)) {
		return api.ErrArg
	}
	return api.OK
}

// areDrivers reports whether all days have one of n drivers.
func areDrivers(days []int, n int) bool {
	for _, driver := range days {
		if driver < 0 || driver >= n {
			return false
		}
	}
	return true
}

// checkMany returns the error of shares, then that of a number of days.
func checkMany(shares []int, many int) api.Errno {
	if e := checkShares(shares); e != api.OK {
		return e
	}
	if many < 0 || many > api.MaxDays {
		return api.ErrArg
	}
	return api.OK
}

// checkBound returns the error of shares, then that of a bound.
func checkBound(shares []int, bound api.Ratio) api.Errno {
	if e := checkShares(shares); e != api.OK {
		return e
	}
	if bound.Den < 1 || bound.Den > api.MaxPart || bound.Num < 0 || bound.Num > bound.Den {
		return api.ErrArg
	}
	if ratio.Divisor(bound.Num, bound.Den) != 1 {
		return api.ErrArg
	}
	return api.OK
}

// sum returns the sum of a list.
func sum(list []int) int {
	total := 0
	for _, x := range list {
		total += x
	}
	return total
}
