package trip_test

import (
	"fmt"
	"math"
	"math/rand"
	"reflect"
	"slices"
	"testing"

	"trishaw/api"
	"trishaw/trip"
)

func list(x ...any) []any { return x }

// same compares what a call returned, its error last, with what is expected; an empty list may be nil.
func same(t *testing.T, what string, got, want []any) {
	t.Helper()
	if fmt.Sprint(got) != fmt.Sprint(want) {
		t.Errorf("%s: got %v, want %v", what, got, want)
	}
}

// call is a call of a function: its name, and what it returned, its error last.
type call struct {
	name   string
	result []any
}

func (c call) errno() api.Errno { return c.result[len(c.result)-1].(api.Errno) }

// alone reports whether nothing is beside the error.
func (c call) alone() bool {
	return !slices.ContainsFunc(c.result[:len(c.result)-1], func(x any) bool {
		v := reflect.ValueOf(x)
		return !v.IsZero() && !(v.Kind() == reflect.Slice && v.Len() == 0)
	})
}

func (c call) refused(t *testing.T, what any, want api.Errno) {
	t.Helper()
	if c.errno() != want || !c.alone() {
		t.Errorf("%s %v: got %v, want error %d alone", c.name, what, c.result, want)
	}
}

func results(name string, result ...any) call { return call{name, result} }

// more is the arguments that only some functions have.
type more struct {
	order  []int
	i, k   int
	height int
}

// flatCalls calls all functions without a slope.
func flatCalls(x hill, m more) []call {
	a, e1 := trip.Rings(x.rides)
	b, c, e2 := trip.Level(x.rides, m.height)
	return []call{results("Rings", a, e1), results("Level", b, c, e2)}
}

// slopeCalls calls all functions with a slope.
func slopeCalls(x hill, m more) []call {
	a, e1 := trip.Cost(x.rides, x.slope, m.order)
	b, c, e2 := trip.Matching(x.rides, x.slope)
	d, e3 := trip.Gaps(x.rides, x.slope)
	f, g, e4 := trip.Patches(x.rides, x.slope)
	h, i, e5 := trip.Tour(x.rides, x.slope)
	j, e6 := trip.Least(x.rides, x.slope)
	k, e7 := trip.Empty(x.rides, x.slope, m.i, m.k)
	return []call{
		results("Cost", a, e1), results("Matching", b, c, e2), results("Gaps", d, e3), results("Patches", f, g, e4),
		results("Tour", h, i, e5), results("Least", j, e6), results("Empty", k, e7),
	}
}

func calls(x hill, m more) []call { return slices.Concat(flatCalls(x, m), slopeCalls(x, m)) }

// someMore are arguments that are right for some days, and others that never are.
func someMore() []more {
	return []more{{}, {order: []int{0}}, {order: []int{0, 1}, k: 1, height: 5}, {[]int{-1}, -1, 10, -1}, {make([]int, 100), math.MinInt, math.MaxInt, math.MaxInt}}
}

// First too many rides, whatever they are and whatever comes after them; then none, or a height; then the slope.
func TestDayErrors(t *testing.T) {
	slopes := []api.Slope{{Up: 2, Down: 1}, {Up: -1, Down: 1}, {Up: 1, Down: 1001}}
	for _, s := range slopes {
		for _, m := range someMore() {
			for _, rides := range [][]api.Ride{make([]api.Ride, 10), make([]api.Ride, 1000), slices.Repeat([]api.Ride{{From: -1, To: 1001}}, 10)} {
				for _, c := range calls(hill{rides, s}, m) {
					c.refused(t, list(len(rides), s, m), api.ErrLimit)
				}
			}
			for _, rides := range [][]api.Ride{nil, {}, rides(-1, 0), rides(0, -1), rides(1001, 0), rides(0, 1001), rides(math.MinInt, math.MaxInt), rides(math.MaxInt, math.MinInt)} {
				for _, c := range calls(hill{rides, s}, m) {
					c.refused(t, list(rides, s, m), api.ErrArg)
				}
			}
		}
	}
	for many := range api.MaxRides {
		for k := range many + 1 {
			list := make([]api.Ride, many+1)
			list[k].To = 1001
			for _, c := range calls(hill{list, slopes[0]}, more{}) {
				c.refused(t, list, api.ErrArg)
			}
		}
	}
}

func TestSlopeErrors(t *testing.T) {
	for _, bad := range []int{math.MinInt, -1, 1001, math.MaxInt} {
		for _, s := range []api.Slope{{Up: bad}, {Down: bad}, {Up: bad, Down: 1000}, {Up: 1000, Down: bad}, {Up: bad, Down: bad}} {
			for _, many := range []int{1, 2, 7, 8, 9} {
				for _, m := range someMore() {
					for _, c := range slopeCalls(hill{make([]api.Ride, many), s}, m) {
						c.refused(t, list(many, s, m), api.ErrArg)
					}
				}
			}
		}
	}
}

// Days of the least and greatest size are days.
func TestLimits(t *testing.T) {
	high := hill{rides(0, 0, 1000, 1000), api.Slope{Up: 1000, Down: 1000}}
	same(t, "two far rides", list(calls(high, more{[]int{1, 0}, 0, 1, 1000})), list([]call{
		results("Rings", [][]int{{0}, {1}}, api.OK), results("Level", 0, 0, api.OK),
		results("Cost", 2000000, api.OK), results("Matching", []int{0, 1}, 0, api.OK), results("Gaps", []int{2000000}, api.OK),
		results("Patches", []int{0}, 2000000, api.OK), results("Tour", []int{0, 1}, 2000000, api.OK), results("Least", 2000000, api.OK), results("Empty", 1000000, api.OK),
	}))
	up := hill{slices.Repeat(rides(0, 1000), 9), api.Slope{Up: 0, Down: 1000}}
	all := []int{0, 1, 2, 3, 4, 5, 6, 7, 8}
	same(t, "nine rides up", list(calls(up, more{all, 8, 0, 1000})), list([]call{
		results("Rings", [][]int{{0}, {1}, {2}, {3}, {4}, {5}, {6}, {7}, {8}}, api.OK), results("Level", 9, 0, api.OK),
		results("Cost", 9000000, api.OK), results("Matching", all, 9000000, api.OK), results("Gaps", make([]int, 8), api.OK),
		results("Patches", all[:8], 0, api.OK), results("Tour", []int{}, 0, api.ErrFull), results("Least", 9000000, api.OK), results("Empty", 1000000, api.OK),
	}))
	one := hill{rides(1000, 0), api.Slope{Up: 1000, Down: 0}}
	same(t, "one ride down", list(calls(one, more{[]int{0}, 0, 0, 0})), list([]call{
		results("Rings", [][]int{{0}}, api.OK), results("Level", 0, 0, api.OK),
		results("Cost", 1000000, api.OK), results("Matching", []int{0}, 1000000, api.OK), results("Gaps", []int{}, api.OK),
		results("Patches", []int{}, 0, api.OK), results("Tour", []int{0}, 1000000, api.OK), results("Least", 1000000, api.OK), results("Empty", 1000000, api.OK),
	}))
}

func TestExamples(t *testing.T) {
	x := hill{rides(0, 5, 5, 0), api.Slope{Up: 1, Down: 1}}
	same(t, "the first example", list(calls(x, more{[]int{1, 0}, 0, 1, 5})), list([]call{
		results("Rings", [][]int{{0, 1}}, api.OK), results("Level", 1, 1, api.OK),
		results("Cost", 0, api.OK), results("Matching", []int{1, 0}, 0, api.OK), results("Gaps", []int{10}, api.OK),
		results("Patches", []int{}, 0, api.OK), results("Tour", []int{0, 1}, 0, api.OK), results("Least", 0, api.OK), results("Empty", 0, api.OK),
	}))
	y := hill{rides(0, 0, 5, 5), api.Slope{Up: 2, Down: 1}}
	same(t, "the second example", list(calls(y, more{[]int{1, 0}, 0, 1, 5})), list([]call{
		results("Rings", [][]int{{0}, {1}}, api.OK), results("Level", 0, 0, api.OK),
		results("Cost", 15, api.OK), results("Matching", []int{0, 1}, 0, api.OK), results("Gaps", []int{15}, api.OK),
		results("Patches", []int{0}, 15, api.OK), results("Tour", []int{0, 1}, 15, api.OK), results("Least", 15, api.OK), results("Empty", 10, api.OK),
	}))
}

func TestP6_1(t *testing.T) {
	r := rand.New(rand.NewSource(2))
	for _, x := range someHills(1500, api.MaxRides) {
		order := r.Perm(len(x.rides))
		cost, e := trip.Cost(x.rides, x.slope, order)
		same(t, fmt.Sprint("Cost ", x, order), list(cost, e), list(slowCost(x, order), api.OK))
		for i := range x.rides {
			for k := range x.rides {
				cost, e := trip.Empty(x.rides, x.slope, i, k)
				same(t, fmt.Sprint("Empty ", x, i, k), list(cost, e), list(slowEmpty(x, i, k), api.OK))
			}
		}
	}
	// One ride is followed by itself: up, down, and level.
	s := api.Slope{Up: 3, Down: 2}
	for _, c := range []struct {
		rides []api.Ride
		cost  int
	}{{rides(7, 3), 12}, {rides(3, 7), 8}, {rides(5, 5), 0}} {
		cost, e := trip.Cost(c.rides, s, []int{0})
		same(t, fmt.Sprint("Cost ", c.rides), list(cost, e), list(c.cost, api.OK))
		cost, e = trip.Empty(c.rides, s, 0, 0)
		same(t, fmt.Sprint("Empty ", c.rides), list(cost, e), list(c.cost, api.OK))
	}
}

func TestP6_1Errors(t *testing.T) {
	s := api.Slope{Up: 1, Down: 1}
	for many := 1; many <= api.MaxRides; many++ {
		x := make([]api.Ride, many)
		all := rand.New(rand.NewSource(3)).Perm(many)
		orders := [][]int{nil, {}, all[1:], all[:many-1], append(slices.Clone(all), all[0]), append(slices.Clone(all), many), make([]int, 1000)}
		for k := range all {
			for _, bad := range []int{all[(k+1)%many], -1, many, 64, math.MinInt, math.MaxInt} {
				order := slices.Clone(all)
				order[k] = bad
				orders = append(orders, order)
			}
		}
		for _, order := range orders {
			if many == 1 && slices.Equal(order, all) {
				continue
			}
			cost, e := trip.Cost(x, s, order)
			results("Cost", cost, e).refused(t, list(many, order), api.ErrArg)
		}
		for _, bad := range []int{math.MinInt, -1, many, many + 1, 64, math.MaxInt} {
			for _, other := range []int{0, many - 1, bad} {
				cost, e := trip.Empty(x, s, bad, other)
				results("Empty", cost, e).refused(t, list(many, bad, other), api.ErrArg)
				cost, e = trip.Empty(x, s, other, bad)
				results("Empty", cost, e).refused(t, list(many, other, bad), api.ErrArg)
			}
		}
	}
}

func TestP6_2(t *testing.T) {
	rings := map[int]int{}
	for _, x := range someHills(4000, api.MaxRides) {
		next, cost, e := trip.Matching(x.rides, x.slope)
		want := slowMatching(x)
		same(t, fmt.Sprint("Matching ", x), list(next, cost, e), list(want, matchingCost(x, want), api.OK))
		l, e := trip.Rings(x.rides)
		same(t, fmt.Sprint("Rings ", x), list(l, e), list(slowRings(x), api.OK))
		rings[len(l)]++
	}
	for many := 1; many < api.MaxRides; many++ {
		if rings[many] < 10 {
			t.Error("too few days with so many rings:", many, rings[many])
		}
	}
}

// Of the same height the lesser ride is first, both where rides end and where they begin.
func TestP6_2SameHeight(t *testing.T) {
	s := api.Slope{Up: 1, Down: 1}
	for _, c := range []struct {
		rides []api.Ride
		next  []int
		rings [][]int
	}{
		{rides(4, 4, 4, 4, 4, 4), []int{0, 1, 2}, [][]int{{0}, {1}, {2}}},
		{rides(0, 3, 1, 3, 2, 3), []int{0, 1, 2}, [][]int{{0}, {1}, {2}}},
		{rides(2, 3, 1, 3, 0, 3), []int{2, 1, 0}, [][]int{{0, 2}, {1}}},
		{rides(3, 2, 3, 1, 3, 0), []int{2, 1, 0}, [][]int{{0, 2}, {1}}},
		{rides(3, 1, 3, 2, 3, 0), []int{1, 2, 0}, [][]int{{0, 1, 2}}},
	} {
		next, _, e := trip.Matching(c.rides, s)
		same(t, fmt.Sprint("Matching ", c.rides), list(next, e), list(c.next, api.OK))
		rings, e := trip.Rings(c.rides)
		same(t, fmt.Sprint("Rings ", c.rides), list(rings, e), list(c.rings, api.OK))
	}
}

func TestP6_3(t *testing.T) {
	several := 0
	for _, x := range someHills(1500, api.MaxRides) {
		gaps, e := trip.Gaps(x.rides, x.slope)
		same(t, fmt.Sprint("Gaps ", x), list(gaps, e), list(slowGaps(x), api.OK))
		want, least := slowPatches(x)
		l, sum, e := trip.Patches(x.rides, x.slope)
		same(t, fmt.Sprint("Patches ", x), list(l, sum, e), list(want, least, api.OK))
		if len(l) > 0 && len(l) < len(gaps) {
			several++
		}
	}
	if several < 100 {
		t.Error("too few days on which some gaps are left out:", several)
	}
}

// Of lists with the same sum the shortest, of these the first.
func TestP6_3First(t *testing.T) {
	for _, c := range []struct {
		x    hill
		list []int
		sum  int
	}{
		// The gap 1 costs nothing, but joins nothing new.
		{hill{rides(0, 0, 3, 5, 5, 3, 9, 9), api.Slope{Up: 1, Down: 1}}, []int{0, 2}, 14},
		// The gaps 0 and 1 join the same rings at the same cost.
		{hill{rides(0, 4, 2, 2, 4, 0), api.Slope{Up: 1, Down: 1}}, []int{0}, 4},
		{hill{rides(0, 4, 2, 2, 4, 0), api.Slope{}}, []int{0}, 0},
		// The gap 1 is cheaper than the gap 0.
		{hill{rides(0, 5, 3, 3, 5, 0), api.Slope{Up: 0, Down: 1}}, []int{1}, 2},
	} {
		l, sum, e := trip.Patches(c.x.rides, c.x.slope)
		same(t, fmt.Sprint("Patches ", c.x), list(l, sum, e), list(c.list, c.sum, api.OK))
	}
}

func TestP6_4(t *testing.T) {
	for _, x := range someHills(600, api.MaxToured) {
		want, least := slowTour(x)
		order, cost, e := trip.Tour(x.rides, x.slope)
		same(t, fmt.Sprint("Tour ", x), list(order, cost, e), list(want, least, api.OK))
	}
	for _, x := range someHills(1500, api.MaxRides) {
		_, matched, e := trip.Matching(x.rides, x.slope)
		_, sum, f := trip.Patches(x.rides, x.slope)
		least, g := trip.Least(x.rides, x.slope)
		same(t, fmt.Sprint("Least ", x), list(least, e, f, g), list(matched+sum, api.OK, api.OK, api.OK))
	}
}

// Eight and nine rides are a day, but are not toured: ErrFull, after all other errors.
func TestP6_4Errors(t *testing.T) {
	good := api.Slope{Up: 1, Down: 1}
	for _, c := range []struct {
		many int
		bad  bool
		s    api.Slope
		want api.Errno
	}{
		{8, false, good, api.ErrFull}, {9, false, good, api.ErrFull}, {8, true, good, api.ErrArg}, {9, true, good, api.ErrArg},
		{8, false, api.Slope{Up: -1}, api.ErrArg}, {9, false, api.Slope{Down: 1001}, api.ErrArg}, {10, false, good, api.ErrLimit},
	} {
		x := make([]api.Ride, c.many)
		if c.bad {
			x[c.many-1].From = -1
		}
		order, cost, e := trip.Tour(x, c.s)
		results("Tour", order, cost, e).refused(t, c, c.want)
	}
	order, cost, e := trip.Tour(make([]api.Ride, 7), good)
	same(t, "Tour of seven rides", list(order, cost, e), list([]int{0, 1, 2, 3, 4, 5, 6}, 0, api.OK))
}

func TestP6_5(t *testing.T) {
	for _, x := range someHills(400, api.MaxRides) {
		for _, near := range append(slices.Concat(ends(x), starts(x)), 1, 500, 999) {
			for h := max(0, near-1); h <= min(api.MaxHeight, near+1); h++ {
				up, down, e := trip.Level(x.rides, h)
				wantUp, wantDown := slowLevel(x, h)
				same(t, fmt.Sprint("Level ", x.rides, h), list(up, down, e), list(wantUp, wantDown, api.OK))
			}
		}
	}
	// From below the height to it is up, from it to below it is down; staying at it, above it or below it is neither.
	x := rides(4, 5, 4, 6, 5, 4, 6, 4, 5, 5, 4, 4, 5, 6, 6, 5, 9, 0)
	up, down, e := trip.Level(x, 5)
	same(t, "Level 5", list(up, down, e), list(2, 3, api.OK))
}

func TestP6_5Errors(t *testing.T) {
	for _, height := range []int{math.MinInt, -1, 1001, math.MaxInt} {
		up, down, e := trip.Level(rides(0, 5, 1000, 0), height)
		results("Level", up, down, e).refused(t, height, api.ErrArg)
	}
}
