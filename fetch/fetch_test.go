package fetch_test

import (
	"fmt"
	"math"
	"math/rand"
	"reflect"
	"slices"
	"testing"

	"trishaw/api"
	"trishaw/fetch"
)

func list(x ...any) []any { return x }

// same compares what a call returned, its error last, with what is expected; an empty list may be nil.
func same(t *testing.T, what string, got, want []any) {
	t.Helper()
	if fmt.Sprint(got) != fmt.Sprint(want) {
		t.Errorf("%s: got %v, want %v", what, got, want)
	}
}

// call is a call of a function: its name, and what it returned, its error last.
type call struct {
	name   string
	result []any
}

func (c call) errno() api.Errno { return c.result[len(c.result)-1].(api.Errno) }

// alone reports whether nothing is beside the error.
func (c call) alone() bool {
	return !slices.ContainsFunc(c.result[:len(c.result)-1], func(x any) bool {
		v := reflect.ValueOf(x)
		return !v.IsZero() && !(v.Kind() == reflect.Slice && v.Len() == 0)
	})
}

func (c call) refused(t *testing.T, what any, want api.Errno) {
	t.Helper()
	if c.errno() != want || !c.alone() {
		t.Errorf("%s %v: got %v, want error %d alone", c.name, what, c.result, want)
	}
}

func results(name string, result ...any) call { return call{name, result} }

// calls calls all functions.
func calls(x quarter, cut int, streets, cuts []int) []call {
	a, e1 := fetch.Cuts(x.n, x.streets)
	b, e2 := fetch.Crossing(x.n, x.streets, cut)
	c, e3 := fetch.IsMend(x.n, x.streets, streets)
	d, e4 := fetch.Mend(x.n, x.streets)
	f, e5 := fetch.Apart(x.n, x.streets)
	g, e6 := fetch.AreApart(x.n, x.streets, cuts)
	h, e7 := fetch.Strong(x.n, x.streets)
	i, e8 := fetch.Both(x.n, x.streets, streets)
	j, k, e9 := fetch.Smallest(x.n, x.streets)
	l, e10 := fetch.Mends(x.n, x.streets)
	m, e11 := fetch.Parts(x.n, x.streets)
	return []call{
		results("Cuts", a, e1), results("Crossing", b, e2), results("IsMend", c, e3), results("Mend", d, e4), results("Apart", f, e5),
		results("AreApart", g, e6), results("Strong", h, e7), results("Both", i, e8), results("Smallest", j, k, e9),
		results("Mends", l, e10), results("Parts", m, e11),
	}
}

// refusedQuarter checks that all functions return an error, whatever the other arguments are.
func refusedQuarter(t *testing.T, x quarter, want api.Errno) {
	t.Helper()
	for _, cut := range []int{0, 1, -1, 3} {
		for _, l := range [][]int{nil, {0}, {-1}, {1, 0}, make([]int, 15)} {
			for _, c := range calls(x, cut, l, l) {
				c.refused(t, x, want)
			}
		}
	}
}

// notStreets returns pairs that are no streets between n corners.
func notStreets(n int) []api.Pair {
	return leading(0, 0, n-1, n-1, 0, n, n, 0, 0, -1, -1, 0, n, n, -1, -1, 0, 64, 0, math.MaxInt, math.MinInt, 0, math.MinInt, math.MaxInt)
}

// First the number of corners, then that of the streets, then each street, then whether they are connected, and all before anything else.
func TestQuarterErrors(t *testing.T) {
	good, bad := api.Pair{A: 0, B: 1}, api.Pair{A: 0, B: 0}
	tooMany := [][]api.Pair{make([]api.Pair, 15), slices.Repeat([]api.Pair{good}, 15), slices.Repeat([]api.Pair{bad}, 100)}
	for _, n := range []int{math.MinInt, -1, 0, 1, 8, 9, 64, math.MaxInt} {
		for _, streets := range append(tooMany, nil, []api.Pair{good}, []api.Pair{bad}) {
			refusedQuarter(t, quarter{n, streets}, api.ErrArg)
		}
	}
	for n := 2; n <= 7; n++ {
		for _, streets := range tooMany {
			refusedQuarter(t, quarter{n, streets}, api.ErrLimit)
		}
		for _, bad := range notStreets(n) {
			refusedQuarter(t, quarter{n, []api.Pair{bad}}, api.ErrArg)
			refusedQuarter(t, quarter{n, []api.Pair{good, bad}}, api.ErrArg)
			refusedQuarter(t, quarter{n, append(slices.Repeat([]api.Pair{good}, 13), bad)}, api.ErrArg)
			refusedQuarter(t, quarter{n, append(path(n).streets, bad)}, api.ErrArg)
		}
	}
}

func TestNotConnected(t *testing.T) {
	for n := 2; n <= 7; n++ {
		refusedQuarter(t, quarter{n, nil}, api.ErrState)
		for i := range n - 1 {
			streets := path(n).streets
			refusedQuarter(t, quarter{n, slices.Delete(streets, i, i+1)}, api.ErrState)
		}
	}
	refusedQuarter(t, quarter{3, slices.Repeat(leading(0, 1, 1, 0), 7)}, api.ErrState)
	refusedQuarter(t, quarter{3, slices.Repeat(leading(1, 2), 14)}, api.ErrState)
	refusedQuarter(t, quarter{6, slices.Concat(leading(0, 1, 1, 2, 2, 0), leading(3, 4, 4, 5, 5, 3))}, api.ErrState)
	refusedQuarter(t, quarter{7, leading(0, 1, 0, 2, 0, 3, 5, 4, 6, 4)}, api.ErrState)
	// The directions play no part.
	for _, streets := range [][]api.Pair{leading(0, 1, 2, 1, 2, 3), leading(1, 0, 1, 2, 3, 2), leading(0, 3, 1, 3, 2, 3), leading(3, 0, 3, 1, 3, 2)} {
		for _, c := range calls(quarter{4, streets}, slowCuts(quarter{4, streets})[0], nil, nil) {
			same(t, fmt.Sprint(c.name, streets), list(c.errno()), list(api.OK))
		}
	}
}

// Quarters of the least and greatest size are quarters.
func TestLimits(t *testing.T) {
	seven := quarter{7, append(star(7).twice().streets, leading(6, 1, 6, 2)...)}
	for _, x := range []quarter{path(2), {2, slices.Repeat(leading(1, 0), 14)}, {2, slices.Repeat(leading(1, 0, 0, 1), 7)}, star(7).twice(), ring(7).twice(), seven} {
		all(t, x)
		if l, e := fetch.Both(x.n, x.streets, nil); e != api.OK || !slices.Equal(l, x.streets) {
			t.Error("Both", x, l, e)
		}
	}
}

// all checks all functions that have no further argument.
func all(t *testing.T, x quarter) {
	t.Helper()
	want := make([]call, 11)
	mends := slowMends(x)
	many, cut, found := slowSmallest(x)
	smallest := api.ErrPlan
	if found {
		smallest = api.OK
	}
	want[0], want[3], want[4] = results("Cuts", slowCuts(x), api.OK), results("Mend", mends[0], api.OK), results("Apart", slowApart(x), api.OK)
	want[6], want[8] = results("Strong", slowStrong(x), api.OK), results("Smallest", many, cut, smallest)
	want[9], want[10] = results("Mends", len(mends), api.OK), results("Parts", slowParts(x), api.OK)
	for k, c := range calls(x, 1, nil, nil) {
		if want[k].name != "" {
			same(t, fmt.Sprint(c.name, " ", x), list(c), list(want[k]))
		}
	}
}

func TestExamples(t *testing.T) {
	x := path(3)
	none := []int{}
	want := []call{
		results("Cuts", []int{1, 3}, api.OK), results("Crossing", []int{1}, api.OK), results("IsMend", true, api.OK), results("Mend", []int{0, 1}, api.OK),
		results("Apart", []int{1, 3}, api.OK), results("AreApart", true, api.OK), results("Strong", false, api.OK),
		results("Both", leading(0, 1, 1, 2, 1, 0, 2, 1), api.OK), results("Smallest", 1, 1, api.OK), results("Mends", 1, api.OK),
		results("Parts", [][]int{{0}, {1}, {2}}, api.OK),
	}
	same(t, "the first example", list(calls(x, 3, []int{0, 1}, []int{3, 1})), list(want))
	x = quarter{3, leading(0, 1, 0, 1, 1, 2, 2, 0)}
	want = []call{
		results("Cuts", none, api.OK), results("Crossing", none, api.ErrArg), results("IsMend", true, api.OK), results("Mend", none, api.OK),
		results("Apart", none, api.OK), results("AreApart", false, api.OK), results("Strong", true, api.OK),
		results("Both", leading(0, 1, 0, 1, 1, 2, 2, 0, 2, 1), api.OK), results("Smallest", 0, 0, api.ErrPlan), results("Mends", 1, api.OK),
		results("Parts", [][]int{{0, 1, 2}}, api.OK),
	}
	same(t, "the second example", list(calls(x, 1, []int{2}, []int{1})), list(want))
	x = diamond()
	want = []call{
		results("Cuts", []int{1, 3, 5, 7}, api.OK), results("Crossing", []int{0, 3}, api.OK), results("IsMend", false, api.OK), results("Mend", []int{0, 2}, api.OK),
		results("Apart", []int{1, 7}, api.OK), results("AreApart", false, api.OK), results("Strong", false, api.OK),
		results("Both", leading(0, 1, 0, 2, 1, 3, 2, 3, 1, 0, 3, 2), api.OK), results("Smallest", 2, 1, api.OK), results("Mends", 2, api.OK),
		results("Parts", [][]int{{0}, {1}, {2}, {3}}, api.OK),
	}
	same(t, "the third example", list(calls(x, 5, []int{0, 3}, []int{1, 3})), list(want))
}

func TestP9_1(t *testing.T) {
	for _, c := range []struct {
		x    quarter
		want []int
	}{
		{path(7), []int{1, 3, 7, 15, 31, 63}}, {path(4).turned(), []int{8, 12, 14}}, {star(4), []int{1, 3, 5, 7, 9, 11, 13}}, {ring(7), nil},
		// Only a ring that has a street to a corner, and only one from a corner.
		{quarter{4, leading(1, 2, 2, 3, 3, 1, 2, 0)}, []int{14}}, {quarter{4, leading(1, 2, 2, 3, 3, 1, 0, 2)}, []int{1}},
	} {
		l, e := fetch.Cuts(c.x.n, c.x.streets)
		same(t, fmt.Sprint("Cuts ", c.x), list(l, e), list(c.want, api.OK))
	}
	refused := 0
	for _, x := range someQuarters(1500, api.MaxArcs) {
		cuts := slowCuts(x)
		l, e := fetch.Cuts(x.n, x.streets)
		same(t, fmt.Sprint("Cuts ", x), list(l, e), list(cuts, api.OK))
		for set := -2; set < 1<<x.n+2; set++ {
			l, e := fetch.Crossing(x.n, x.streets, set)
			if slices.Contains(cuts, set) {
				same(t, fmt.Sprint("Crossing ", x, set), list(l, e), list(slowCrossing(x, set), api.OK))
			} else {
				refused++
				results("Crossing", l, e).refused(t, list(x, set), api.ErrArg)
			}
		}
	}
	if refused < 1000 {
		t.Error("too few sets are no cuts:", refused)
	}
}

// No other number is a cut, even if it has the same last bits as one.
func TestP9_1NoCut(t *testing.T) {
	for _, x := range []quarter{path(3), path(7), diamond(), star(7), ring(4)} {
		for _, set := range []int{0, 1<<x.n - 1, 1 << x.n, 1<<x.n + 1, 1<<32 + 1, 1<<62 + 1, math.MaxInt, math.MinInt, math.MinInt + 1, -1, -2, -1<<x.n + 1} {
			l, e := fetch.Crossing(x.n, x.streets, set)
			results("Crossing", l, e).refused(t, list(x, set), api.ErrArg)
			ok, e := fetch.AreApart(x.n, x.streets, []int{set})
			same(t, fmt.Sprint("AreApart ", x, set), list(ok, e), list(false, api.OK))
		}
	}
}

// notLists returns lists that are not ascending ones of so many streets, though most have each of them.
func notLists(many int) [][]int {
	list := lists(0, many, many)[0]
	back := slices.Clone(list)
	slices.Reverse(back)
	return [][]int{
		append(slices.Clone(list), many), append([]int{-1}, list...), append(slices.Clone(list), many-1), append([]int{0}, list...), append(back, many+1),
		{math.MaxInt}, {math.MinInt}, {math.MinInt, 0}, {0, 0}, {0, math.MaxInt}, append(slices.Clone(list), -1), slices.Repeat(list, 1000), make([]int, 100000),
	}
}

func TestP9_2IsMend(t *testing.T) {
	r := rand.New(rand.NewSource(2))
	yes := 0
	for _, x := range slices.Concat(someQuarters(150, 7), someQuarters(30, 10)) {
		all := crossings(x)
		for _, l := range allLists(x) {
			want := slowIsMend(x, all, l)
			if want {
				yes++
			}
			ok, e := fetch.IsMend(x.n, x.streets, l)
			same(t, fmt.Sprint("IsMend ", x, l), list(ok, e), list(want, api.OK))
			if len(l) > 1 { // in another order
				i := r.Intn(len(l) - 1)
				l[i], l[i+1] = l[i+1], l[i]
				ok, e = fetch.IsMend(x.n, x.streets, l)
				same(t, fmt.Sprint("IsMend ", x, l), list(ok, e), list(false, api.OK))
			}
		}
		for _, l := range notLists(len(x.streets)) {
			ok, e := fetch.IsMend(x.n, x.streets, l)
			same(t, fmt.Sprint("IsMend ", x, l[:min(2, len(l))]), list(ok, e), list(false, api.OK))
		}
	}
	if yes < 1000 {
		t.Error("too few mends:", yes)
	}
}

func TestP9_2Mend(t *testing.T) {
	for _, c := range []struct {
		x    quarter
		want []int
		many int
	}{
		{path(2), []int{0}, 1}, {ring(7), nil, 1}, {path(7), []int{0, 1, 2, 3, 4, 5}, 1}, {path(4).twice(), []int{0, 1, 2}, 8}, {quarter{2, slices.Repeat(leading(1, 0), 14)}, []int{0}, 14},
		// The only street of one cut with any street of the other one, and a single street of both.
		{quarter{3, leading(1, 2, 0, 1, 0, 1, 0, 1)}, []int{0, 1}, 3}, {quarter{3, leading(0, 1, 0, 1, 1, 2, 0, 2)}, []int{3}, 1},
		// The mends 0 3 and 1 2.
		{quarter{4, leading(0, 1, 0, 2, 2, 3, 1, 3)}, []int{0, 3}, 2},
	} {
		l, e := fetch.Mend(c.x.n, c.x.streets)
		same(t, fmt.Sprint("Mend ", c.x), list(l, e), list(c.want, api.OK))
		many, e := fetch.Mends(c.x.n, c.x.streets)
		same(t, fmt.Sprint("Mends ", c.x), list(many, e), list(c.many, api.OK))
	}
	several := 0
	for _, x := range slices.Concat(someQuarters(400, 8), someQuarters(120, api.MaxArcs)) {
		want := slowMends(x)
		if len(want) > 1 {
			several++
		}
		l, e := fetch.Mend(x.n, x.streets)
		same(t, fmt.Sprint("Mend ", x), list(l, e), list(want[0], api.OK))
		many, e := fetch.Mends(x.n, x.streets)
		same(t, fmt.Sprint("Mends ", x), list(many, e), list(len(want), api.OK))
	}
	if several < 100 {
		t.Error("too few quarters with several mends:", several)
	}
}

func TestP9_3Apart(t *testing.T) {
	for _, c := range []struct {
		x    quarter
		want []int
	}{
		{path(2), []int{1}}, {ring(7), nil}, {path(4), []int{1, 3, 7}}, {star(4), []int{7, 11, 13}}, {star(4).turned(), []int{2, 4, 8}}, {path(4).turned().twice(), []int{8, 12, 14}},
		{quarter{4, leading(0, 2, 0, 3, 1, 2, 1, 3)}, []int{1, 2}},
		// The least cut is apart from no other one.
		{quarter{4, leading(0, 2, 0, 3, 1, 3, 0, 1)}, []int{5, 11}},
	} {
		l, e := fetch.Apart(c.x.n, c.x.streets)
		same(t, fmt.Sprint("Apart ", c.x), list(l, e), list(c.want, api.OK))
	}
	passed := 0
	for _, x := range someQuarters(1000, api.MaxArcs) {
		want := slowApart(x)
		if len(want) > 0 && want[0] != slowCuts(x)[0] {
			passed++
		}
		l, e := fetch.Apart(x.n, x.streets)
		same(t, fmt.Sprint("Apart ", x), list(l, e), list(want, api.OK))
	}
	if passed < 50 {
		t.Error("too few quarters where the first cut is passed over:", passed)
	}
}

func TestP9_3AreApart(t *testing.T) {
	r := rand.New(rand.NewSource(3))
	yes, no := 0, 0
	for _, x := range someQuarters(1000, api.MaxArcs) {
		cuts := append(slowCuts(x), 0)
		far := slowApart(x)
		r.Shuffle(len(far), func(i, j int) { far[i], far[j] = far[j], far[i] })
		for range 8 {
			l := slices.Clone(far[:r.Intn(len(far)+1)])
			for range r.Intn(3) {
				l = slices.Insert(l, r.Intn(len(l)+1), cuts[r.Intn(len(cuts))])
			}
			want := slowAreApart(x, l)
			if want && len(l) > 1 {
				yes++
			} else if !want {
				no++
			}
			ok, e := fetch.AreApart(x.n, x.streets, l)
			same(t, fmt.Sprint("AreApart ", x, l), list(ok, e), list(want, api.OK))
		}
	}
	if yes < 500 || no < 500 {
		t.Error("too few lists of either kind:", yes, no)
	}
	for _, c := range []struct {
		list []int
		want bool
	}{{nil, true}, {[]int{1}, true}, {[]int{7, 1}, true}, {[]int{3, 5}, true}, {[]int{1, 3}, false}, {[]int{1, 1}, false}, {[]int{1, 7, 1}, false}, {[]int{1, 0}, false}, {[]int{1, 15}, false}, {[]int{7, 2}, false}, {slices.Repeat([]int{1, 7}, 50000), false}} {
		ok, e := fetch.AreApart(4, diamond().streets, c.list)
		same(t, fmt.Sprint("AreApart ", c.list[:min(4, len(c.list))]), list(ok, e), list(c.want, api.OK))
	}
}

func TestP9_4StrongAndParts(t *testing.T) {
	for _, c := range []struct {
		x    quarter
		want [][]int
	}{
		{path(2), [][]int{{0}, {1}}}, {ring(2), [][]int{{0, 1}}}, {ring(7), [][]int{{0, 1, 2, 3, 4, 5, 6}}}, {diamond(), [][]int{{0}, {1}, {2}, {3}}},
		// Two rings, through each other by their numbers, and a corner between them.
		{quarter{7, leading(0, 3, 3, 5, 5, 0, 5, 2, 2, 1, 1, 4, 4, 6, 6, 1)}, [][]int{{0, 3, 5}, {1, 4, 6}, {2}}},
	} {
		l, e := fetch.Parts(c.x.n, c.x.streets)
		same(t, fmt.Sprint("Parts ", c.x), list(l, e), list(c.want, api.OK))
	}
	strong, parts := 0, 0
	for _, x := range someQuarters(2000, api.MaxArcs) {
		want := slowParts(x)
		if len(want) == 1 {
			strong++
		} else if len(want) < x.n {
			parts++
		}
		l, e := fetch.Parts(x.n, x.streets)
		same(t, fmt.Sprint("Parts ", x), list(l, e), list(want, api.OK))
		ok, e := fetch.Strong(x.n, x.streets)
		same(t, fmt.Sprint("Strong ", x), list(ok, e), list(len(want) == 1, api.OK))
	}
	if strong < 100 || parts < 100 {
		t.Error("too few strong quarters, or some with larger parts:", strong, parts)
	}
}

func TestP9_4Both(t *testing.T) {
	for _, x := range someQuarters(150, 7) {
		for _, l := range allLists(x) {
			want := slices.Clone(x.streets)
			for _, i := range l {
				want = append(want, api.Pair{A: x.streets[i].B, B: x.streets[i].A})
			}
			got, e := fetch.Both(x.n, x.streets, l)
			same(t, fmt.Sprint("Both ", x, l), list(got, e), list(want, api.OK))
		}
	}
}

// First how many they are, whatever they are, then whether they are strictly ascending indices.
func TestP9_4BothErrors(t *testing.T) {
	refused := func(x quarter, l []int, want api.Errno) {
		got, e := fetch.Both(x.n, x.streets, l)
		results("Both", got, e).refused(t, list(x, len(l)), want)
	}
	for _, x := range append(someQuarters(150, api.MaxArcs), path(7).twice(), star(7).twice()) {
		many := len(x.streets)
		room := api.MaxArcs - many
		refused(x, make([]int, room+1), api.ErrLimit)
		refused(x, make([]int, 100000), api.ErrLimit)
		refused(x, slices.Repeat([]int{-1}, room+1), api.ErrLimit)
		if room < many {
			refused(x, lists(0, room+1, room+1)[0], api.ErrLimit)
		}
		for _, l := range append(notLists(many), []int{many}, []int{-1}, []int{0, many}, []int{-1, 0}, []int{many - 1, 0}) {
			if len(l) <= room {
				refused(x, l, api.ErrArg)
			} else {
				refused(x, l, api.ErrLimit)
			}
		}
	}
}

func TestP9_5(t *testing.T) {
	for _, c := range []struct {
		x         quarter
		many, cut int
		want      api.Errno
	}{
		{ring(2), 0, 0, api.ErrPlan}, {ring(7), 0, 0, api.ErrPlan}, {path(2), 1, 1, api.OK}, {path(2).turned(), 1, 2, api.OK}, {star(7), 1, 63, api.OK}, {star(7).turned(), 1, 2, api.OK},
		{path(4).twice(), 2, 1, api.OK}, {quarter{2, slices.Repeat(leading(1, 0), 14)}, 14, 2, api.OK}, {quarter{3, leading(0, 1, 0, 1, 1, 2)}, 1, 3, api.OK},
	} {
		many, cut, e := fetch.Smallest(c.x.n, c.x.streets)
		same(t, fmt.Sprint("Smallest ", c.x), list(many, cut, e), list(c.many, c.cut, c.want))
	}
	later := 0
	for _, x := range someQuarters(2000, api.MaxArcs) {
		many, cut, found := slowSmallest(x)
		want := api.OK
		if !found {
			want = api.ErrPlan
		} else if cut != slowCuts(x)[0] {
			later++
		}
		got, set, e := fetch.Smallest(x.n, x.streets)
		same(t, fmt.Sprint("Smallest ", x), list(got, set, e), list(many, cut, want))
	}
	if later < 100 {
		t.Error("too few quarters where it is not the least cut:", later)
	}
}
