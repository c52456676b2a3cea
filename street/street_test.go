package street_test

import (
	"math"
	"slices"
	"testing"

	"trishaw/api"
	"trishaw/street"
)

func TestJoin(t *testing.T) {
	good := api.Pair{A: 1, B: 0}
	for _, c := range []struct {
		n    int
		s    api.Pair
		want bool
	}{
		{2, good, true}, {2, api.Pair{A: 0, B: 1}, true}, {7, api.Pair{A: 6, B: 0}, true}, {7, api.Pair{A: 0, B: 6}, true},
		{7, api.Pair{A: 6, B: 6}, false}, {7, api.Pair{A: 0, B: 0}, false}, {2, api.Pair{A: 0, B: 2}, false}, {2, api.Pair{A: 2, B: 0}, false},
		{2, api.Pair{A: -1, B: 0}, false}, {2, api.Pair{A: 0, B: -1}, false}, {2, api.Pair{A: math.MinInt, B: 0}, false}, {2, api.Pair{A: 0, B: math.MaxInt}, false},
		{2, api.Pair{A: math.MaxInt, B: math.MinInt}, false},
	} {
		for _, streets := range [][]api.Pair{{c.s}, {c.s, good}, {good, c.s}, {good, good, c.s}} {
			before := slices.Clone(streets)
			if got := street.Join(c.n, streets); got != c.want || !slices.Equal(streets, before) {
				t.Error(c, before, got, streets)
			}
		}
	}
	if !street.Join(1, nil) || street.Join(1, []api.Pair{good}) || street.Join(0, []api.Pair{good}) {
		t.Error("one corner has no streets")
	}
}

func TestTurned(t *testing.T) {
	if got := street.Turned(api.Pair{A: 3, B: 5}); got != (api.Pair{A: 5, B: 3}) {
		t.Error(got)
	}
}
