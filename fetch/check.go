package fetch

import (
	"trishaw/api"
	"trishaw/street"
)

// limit is a limit that every quarter keeps.
type limit int

// The limits, in the order in which they are checked: each one is checked only if those before it are kept.
const (
	cornerLimit limit = iota
	streetLimit
	endLimit
	pieceLimit
	limits
)

// keeps reports whether a quarter keeps a limit.
func (q quarter) keeps(l limit) bool {
	switch l {
	case cornerLimit:
		return q.n >= 2 && q.n <= api.MaxCorners
	case streetLimit:
		return len(q.streets) <= api.MaxArcs
	case endLimit:
		return street.Join(q.n, q.streets)
	default:
		return q.isConnected()
	}
}

// broken returns the error of a quarter that does not keep a limit.
func (l limit) broken() api.Errno {
	switch l {
	case streetLimit:
		return api.ErrLimit
	case pieceLimit:
		return api.ErrState
	default:
		return api.ErrArg
	}
}

// check returns the error of a quarter, or OK.
func (q quarter) check() api.Errno {
	for l := range limits {
		if !q.keeps(l) {
			return l.broken()
		}
	}
	return api.OK
}

// checkCut returns the error of a quarter, then that of a set that is not a cut.
func (q quarter) checkCut(set int) api.Errno {
	if e := q.check(); e != api.OK {
		return e
	}
	if !q.isCut(set) {
		return api.ErrArg
	}
	return api.OK
}

// checkBoth returns the error of a quarter, then those of the streets that are to be made two-way streets.
func (q quarter) checkBoth(list []int) api.Errno {
	if e := q.check(); e != api.OK {
		return e
	}
	if len(q.streets)+len(list) > api.MaxArcs {
		return api.ErrLimit
	}
	if !q.areStreets(list) {
		return api.ErrArg
	}
	return api.OK
}

// areStreets reports whether a list has strictly ascending indices of streets.
func (q quarter) areStreets(list []int) bool {
	next := 0
	for _, i := range list {
		if i < next || i >= len(q.streets) {
			return false
		}
		next = i + 1
	}
	return true
}
