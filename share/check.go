package share

import (
	"slices"

	"trishaw/api"
	"trishaw/ratio"
)

// checkPoints returns the error of the points of one driver, or OK.
func checkPoints(points []int) api.Errno {
	if len(points) > api.MaxThings {
		return api.ErrLimit
	}
	if !within(points, api.MaxPoints) || sum(points) != api.MaxPoints {
		return api.ErrArg
	}
	return api.OK
}

// checkBoth returns the error of A's points, then that of B's points, then that of both.
func checkBoth(a, b []int) api.Errno {
	if e := checkPoints(a); e != api.OK {
		return e
	}
	if e := checkPoints(b); e != api.OK {
		return e
	}
	if len(a) != len(b) {
		return api.ErrArg
	}
	return api.OK
}

// checkDivision returns the error of the points, then that of the parts.
func checkDivision(a, b []int, parts api.Parts) api.Errno {
	if e := checkBoth(a, b); e != api.OK {
		return e
	}
	if !ratio.AreParts(parts, len(a), 0, 1) {
		return api.ErrArg
	}
	return api.OK
}

// checkWishes returns the error of wishes, or OK.
func checkWishes(wishes [][]int) api.Errno {
	n := len(wishes)
	if n < 1 || n > api.MaxRenters {
		return api.ErrArg
	}
	for _, row := range wishes {
		if len(row) != n || !within(row, api.MaxRent) || sum(row) != sum(wishes[0]) {
			return api.ErrArg
		}
	}
	return api.OK
}

// checkRickshaw returns the error of the wishes, then that of one rickshaw.
func checkRickshaw(wishes [][]int, k int) api.Errno {
	if e := checkWishes(wishes); e != api.OK {
		return e
	}
	if k < 0 || k >= len(wishes) {
		return api.ErrArg
	}
	return api.OK
}

// checkRents returns the error of the wishes, then that of an assignment, then that of the rents.
func checkRents(wishes [][]int, rickshaws []int, rents api.Parts) api.Errno {
	if e := checkWishes(wishes); e != api.OK {
		return e
	}
	const most = api.MaxRenters * api.MaxRent
	n := len(wishes)
	if !isAssignment(rickshaws, n) || !ratio.AreParts(rents, n, -most, most) || sum(rents.Nums) != table(wishes).rent()*rents.Den {
		return api.ErrArg
	}
	return api.OK
}

// within reports whether all numbers of a list are from 0 to the most that is allowed.
func within(list []int, most int) bool {
	return !slices.ContainsFunc(list, func(x int) bool { return x < 0 || x > most })
}

// isAssignment reports whether a list has each of n rickshaws once.
func isAssignment(list []int, n int) bool {
	return len(list) == n && slices.Equal(slices.Sorted(slices.Values(list)), indices(n))
}
