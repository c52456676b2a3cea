// Package street has what several layers need of streets between corners.
package street

import (
	"slices"

	"trishaw/api"
)

// Join reports whether each street joins two different ones of n corners.
func Join(n int, streets []api.Pair) bool {
	return !slices.ContainsFunc(streets, func(s api.Pair) bool {
		return !isCorner(n, s.A) || !isCorner(n, s.B) || s.A == s.B
	})
}

func isCorner(n, corner int) bool { return corner >= 0 && corner < n }

// Turned returns a street that leads the other way.
func Turned(s api.Pair) api.Pair { return api.Pair{A: s.B, B: s.A} }
