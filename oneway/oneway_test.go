package oneway_test

import (
	"fmt"
	"math"
	"math/rand"
	"reflect"
	"slices"
	"strings"
	"testing"

	"trishaw/api"
	"trishaw/oneway"
)

func list(x ...any) []any { return x }

// same compares what a call returned, its error last, with what is expected; an empty list may be nil.
func same(t *testing.T, what string, got, want []any) {
	t.Helper()
	if fmt.Sprint(got) != fmt.Sprint(want) {
		t.Errorf("%s: got %v, want %v", what, got, want)
	}
}

// call is a call of a function: its name, and what it returned, its error last.
type call struct {
	name   string
	result []any
}

func (c call) errno() api.Errno { return c.result[len(c.result)-1].(api.Errno) }

// alone reports whether nothing is beside the error.
func (c call) alone() bool {
	return !slices.ContainsFunc(c.result[:len(c.result)-1], func(x any) bool {
		v := reflect.ValueOf(x)
		return !v.IsZero() && !(v.Kind() == reflect.Slice && v.Len() == 0)
	})
}

func (c call) refused(t *testing.T, what any, want api.Errno) {
	t.Helper()
	if c.errno() != want || !c.alone() {
		t.Errorf("%s %v: got %v, want error %d alone", c.name, what, c.result, want)
	}
}

func results(name string, result ...any) call { return call{name, result} }

// plainCalls calls all functions without signs.
func plainCalls(x quarter, lists [][]int) []call {
	a, e1 := oneway.Bridges(x.n, x.streets)
	b, e2 := oneway.First(x.n, x.streets)
	c, d, e3 := oneway.Count(x.n, x.streets)
	f, e4 := oneway.Ears(x.n, x.streets)
	g, e5 := oneway.IsEars(x.n, x.streets, lists)
	h, i, e6 := oneway.Narrowest(x.n, x.streets)
	j, e7 := oneway.Even(x.n, x.streets)
	return []call{
		results("Bridges", a, e1), results("First", b, e2), results("Count", c, d, e3), results("Ears", f, e4),
		results("IsEars", g, e5), results("Narrowest", h, i, e6), results("Even", j, e7),
	}
}

// signCalls calls all functions with signs.
func signCalls(x quarter, a, b string) []call {
	c, e1 := oneway.Strong(x.n, x.streets, a)
	d, e2 := oneway.Rounds(x.n, x.streets, a)
	f, e3 := oneway.Width(x.n, x.streets, a)
	g, e4 := oneway.Differ(x.n, x.streets, a, b)
	return []call{results("Strong", c, e1), results("Rounds", d, e2), results("Width", f, e3), results("Differ", g, e4)}
}

func calls(x quarter, lists [][]int, a, b string) []call {
	return slices.Concat(plainCalls(x, lists), signCalls(x, a, b))
}

// refusedQuarter checks that all functions return an error, whatever the other arguments are.
func refusedQuarter(t *testing.T, x quarter, want api.Errno) {
	t.Helper()
	many := len(x.streets)
	for _, signs := range []string{strings.Repeat(">", many), strings.Repeat("<", many), strings.Repeat("=", many), ">" + strings.Repeat("<", many)} {
		for _, lists := range [][][]int{nil, {{0}}, {{-1}}, {{}}} {
			for _, c := range calls(x, lists, signs, signs) {
				c.refused(t, x, want)
			}
		}
	}
}

// First the number of corners, then that of the streets, then each street, and before anything about signs.
func TestQuarterErrors(t *testing.T) {
	good, bad := api.Pair{A: 0, B: 1}, api.Pair{A: 0, B: 0}
	tooMany := [][]api.Pair{make([]api.Pair, 15), slices.Repeat([]api.Pair{good}, 15), slices.Repeat([]api.Pair{bad}, 100)}
	for _, n := range []int{math.MinInt, -1, 0, 8, 9, 64, math.MaxInt} {
		for _, streets := range append(tooMany, nil, []api.Pair{good}, []api.Pair{bad}) {
			refusedQuarter(t, quarter{n, streets}, api.ErrArg)
		}
	}
	for n := 1; n <= 7; n++ {
		for _, streets := range tooMany {
			refusedQuarter(t, quarter{n, streets}, api.ErrLimit)
		}
		for _, bad := range joined(0, 0, n-1, n-1, 0, n, n, 0, 0, -1, -1, 0, n, n, -1, -1, 0, 64, 0, math.MaxInt, math.MinInt, 0, math.MinInt, math.MaxInt) {
			refusedQuarter(t, quarter{n, []api.Pair{bad}}, api.ErrArg)
			if n > 1 {
				refusedQuarter(t, quarter{n, []api.Pair{good, bad}}, api.ErrArg)
				refusedQuarter(t, quarter{n, append(slices.Repeat([]api.Pair{good}, 13), bad)}, api.ErrArg)
			}
		}
	}
}

// notSigns are strings that are no signs of three streets.
func notSigns() []string {
	return []string{
		"", ">", "><", "><><", ">>=", "=>>", "> >", "<\x00<", "<<\n", ">>\xff", "\xff\xff\xff", "\xbe\xbe\xbe", "\u226a", "\uff1e", "<\u00bb", "\u00ab>",
		"\u226a><", ">\U0001f695", strings.Repeat("<", 6), strings.Repeat(">", 100000), "AAA", "===", "000",
	}
}

func TestSignsErrors(t *testing.T) {
	for _, x := range []quarter{ring(3), {3, joined(0, 1, 1, 2, 1, 2)}, {4, joined(0, 1, 0, 1, 2, 3)}} {
		for _, bad := range notSigns() {
			for _, c := range signCalls(x, bad, "<<<") {
				c.refused(t, list(x, bad), api.ErrForm)
			}
			for _, a := range append(notSigns(), "<<<", ">>>", "<><") {
				l, e := oneway.Differ(x.n, x.streets, a, bad)
				results("Differ", l, e).refused(t, list(x, a, bad), api.ErrForm)
				l, e = oneway.Differ(x.n, x.streets, bad, a)
				results("Differ", l, e).refused(t, list(x, bad, a), api.ErrForm)
			}
		}
	}
	for n := 1; n <= 7; n++ {
		for _, c := range signCalls(quarter{n, nil}, ">", "") {
			c.refused(t, n, api.ErrForm)
		}
	}
}

// Quarters of the least and greatest size are quarters.
func TestLimits(t *testing.T) {
	two := quarter{2, slices.Repeat(joined(0, 1), 14)}
	for _, c := range []struct {
		x             quarter
		strong, loose int
		first         string
		width         int
	}{
		{quarter{1, nil}, 1, 1, "", 0},
		{ring(7).twice(), 4246, 126, "<<<<<<<<<<<<<<", 6},
		{two, 1<<14 - 2, 2, "<<<<<<<<<<<<<>", 1},
	} {
		strong, loose, e := oneway.Count(c.x.n, c.x.streets)
		same(t, fmt.Sprint("Count ", c.x), list(strong, loose, e), list(c.strong, c.loose, api.OK))
		first, e := oneway.First(c.x.n, c.x.streets)
		same(t, fmt.Sprint("First ", c.x), list(first, e), list(c.first, api.OK))
		width, e := oneway.Width(c.x.n, c.x.streets, first)
		same(t, fmt.Sprint("Width ", c.x), list(width, e), list(c.width, api.OK))
		ears, e := oneway.Ears(c.x.n, c.x.streets)
		same(t, fmt.Sprint("Ears ", c.x, ears), list(slowIsEars(c.x, ears), e), list(true, api.OK))
		even, e := oneway.Even(c.x.n, c.x.streets)
		same(t, fmt.Sprint("Even ", c.x, even), list(slowEven(c.x, even), e), list(true, api.OK))
		rounds, e := oneway.Differ(c.x.n, c.x.streets, even, turn(even))
		same(t, fmt.Sprint("Differ ", c.x, rounds), list(slowDiffer(c.x, even, turn(even), rounds), e), list(true, api.OK))
	}
}

// One corner has no streets, and is strong; without streets several corners are not.
func TestNoStreets(t *testing.T) {
	none := []int{}
	want := []call{
		results("Bridges", none, api.OK), results("First", "", api.OK), results("Count", 1, 1, api.OK), results("Ears", none, api.OK),
		results("IsEars", true, api.OK), results("Narrowest", "", 0, api.OK), results("Even", "", api.OK),
		results("Strong", true, api.OK), results("Rounds", none, api.ErrPlan), results("Width", 0, api.OK), results("Differ", none, api.OK),
	}
	same(t, "one corner", list(calls(quarter{1, nil}, nil, "", "")), list(want))
	want[1], want[2], want[3] = results("First", "", api.ErrPlan), results("Count", 0, 1, api.OK), results("Ears", none, api.ErrPlan)
	want[4], want[5] = results("IsEars", false, api.OK), results("Narrowest", "", 0, api.ErrPlan)
	want[7], want[9] = results("Strong", false, api.OK), results("Width", 0, api.ErrPlan)
	for n := 2; n <= 7; n++ {
		same(t, fmt.Sprint("corners without streets ", n), list(calls(quarter{n, nil}, nil, "", "")), list(want))
	}
}

func TestExamples(t *testing.T) {
	x := ring(3)
	first, e := oneway.First(x.n, x.streets)
	same(t, "First of the first example", list(first, e), list("<<<", api.OK))
	strong, loose, e := oneway.Count(x.n, x.streets)
	same(t, "Count of the first example", list(strong, loose, e), list(2, 6, api.OK))
	ears, e := oneway.Ears(x.n, x.streets)
	same(t, "Ears of the first example", list(ears, e), list([][]int{{0, 1, 2}}, api.OK))
	width, e := oneway.Width(x.n, x.streets, first)
	same(t, "Width of the first example", list(width, e), list(2, api.OK))
	even, e := oneway.Even(x.n, x.streets)
	same(t, "Even of the first example", list(even, e), list("<<<", api.OK))
	x = quarter{3, joined(0, 1, 1, 2)}
	bridges, e := oneway.Bridges(x.n, x.streets)
	same(t, "Bridges of the second example", list(bridges, e), list([]int{0, 1}, api.OK))
	first, e = oneway.First(x.n, x.streets)
	same(t, "First of the second example", list(first, e), list("", api.ErrPlan))
	strong, loose, e = oneway.Count(x.n, x.streets)
	same(t, "Count of the second example", list(strong, loose, e), list(0, 4, api.OK))
	x = quarter{2, joined(0, 1, 0, 1)}
	first, e = oneway.First(x.n, x.streets)
	same(t, "First of the third example", list(first, e), list("<>", api.OK))
	strong, loose, e = oneway.Count(x.n, x.streets)
	same(t, "Count of the third example", list(strong, loose, e), list(2, 2, api.OK))
}

func TestP5_1(t *testing.T) {
	for _, c := range []struct {
		x    quarter
		want []int
	}{
		{quarter{7, joined(5, 6)}, []int{0}}, {quarter{2, joined(0, 1, 1, 0)}, nil}, {ring(7), nil}, {eight(), nil},
		// Two rings and a street between them, and one that leads to nothing else; a corner alone.
		{quarter{7, joined(0, 1, 1, 2, 2, 0, 2, 3, 3, 4, 4, 3, 4, 5)}, []int{3, 6}},
	} {
		l, e := oneway.Bridges(c.x.n, c.x.streets)
		same(t, fmt.Sprint("Bridges ", c.x), list(l, e), list(c.want, api.OK))
	}
	for _, x := range someQuarters(1500, api.MaxStreets) {
		l, e := oneway.Bridges(x.n, x.streets)
		same(t, fmt.Sprint("Bridges ", x), list(l, e), list(slowBridges(x), api.OK))
	}
}

func TestP5_2Strong(t *testing.T) {
	r := rand.New(rand.NewSource(2))
	strong := 0
	for _, x := range slices.Concat(someQuarters(500, 7), someQuarters(500, api.MaxStreets)) {
		for range 8 {
			signs := randomSigns(r, len(x.streets))
			want := slowStrong(x, signs)
			if want {
				strong++
			}
			ok, e := oneway.Strong(x.n, x.streets, signs)
			same(t, fmt.Sprint("Strong ", x, signs), list(ok, e), list(want, api.OK))
		}
	}
	if strong < 500 {
		t.Error("too few signs are strong:", strong)
	}
}

// rounds checks Rounds against all round trips.
func rounds(t *testing.T, x quarter, signs string) {
	t.Helper()
	l, e := oneway.Rounds(x.n, x.streets, signs)
	all := slowRounds(x, signs)
	if len(all) == 0 {
		results("Rounds", l, e).refused(t, list(x, signs), api.ErrPlan)
		return
	}
	same(t, fmt.Sprint("Rounds ", x, signs), list(l, e), list(slices.MinFunc(all, slices.Compare), api.OK))
}

func TestP5_2Rounds(t *testing.T) {
	for _, c := range []struct {
		x     quarter
		signs string
		want  []int
	}{
		{ring(3), ">>>", []int{0, 1, 2}}, {ring(3), "<<<", []int{0, 2, 1}}, {ring(2), ">>", []int{0, 1}},
		// A longer round trip that begins with lesser streets comes first; a street on no round trip is passed over.
		{quarter{3, joined(0, 1, 1, 2, 2, 0, 1, 0)}, ">>>>", []int{0, 1, 2}},
		{quarter{4, joined(0, 1, 1, 2, 2, 3, 3, 1)}, ">>>>", []int{1, 2, 3}},
		{quarter{4, joined(3, 2, 0, 3, 2, 0, 2, 1, 1, 0)}, ">>>>>", []int{0, 2, 1}},
	} {
		l, e := oneway.Rounds(c.x.n, c.x.streets, c.signs)
		same(t, fmt.Sprint("Rounds ", c.x, c.signs), list(l, e), list(c.want, api.OK))
	}
	r := rand.New(rand.NewSource(3))
	for _, x := range slices.Concat(someQuarters(500, 7), someQuarters(100, 11)) {
		for range 6 {
			rounds(t, x, randomSigns(r, len(x.streets)))
		}
	}
	rounds(t, ring(7).twice(), ">>>>>>><<<<<<<")
	rounds(t, complete(5), "<><><><><>")
}

// some returns quarters whose signs can all be tried, and some great ones.
func some() []quarter {
	return slices.Concat(someQuarters(300, 7), someQuarters(24, 10), []quarter{complete(4), complete(5), ring(7), ring(5).twice(), eight(), eight().twice()})
}

func TestP5_3(t *testing.T) {
	for _, x := range some() {
		first, strong, loose := "", 0, 0
		for _, signs := range everySigns(len(x.streets)) {
			if slowStrong(x, signs) {
				strong++
				if strong == 1 {
					first = signs
				}
			}
			if slowLoose(x, signs) {
				loose++
			}
		}
		want := api.OK
		if strong == 0 {
			want = api.ErrPlan
		}
		signs, e := oneway.First(x.n, x.streets)
		same(t, fmt.Sprint("First ", x), list(signs, e), list(first, want))
		m, n, e := oneway.Count(x.n, x.streets)
		same(t, fmt.Sprint("Count ", x), list(m, n, e), list(strong, loose, api.OK))
	}
	for n, want := range [][]int{{}, {1, 1}, {0, 2}, {2, 6}, {24, 24}, {544, 120}} {
		if x := complete(n); n > 0 {
			strong, loose, e := oneway.Count(n, x.streets)
			same(t, fmt.Sprint("Count of all streets ", n), list(strong, loose, e), list(want[0], want[1], api.OK))
		}
	}
}

func TestP5_4Ears(t *testing.T) {
	found, none := 0, 0
	for _, x := range append(someQuarters(1500, api.MaxStreets), eight(), complete(5), ring(7), ring(7).twice()) {
		l, e := oneway.Ears(x.n, x.streets)
		if !connected(x) || len(slowBridges(x)) > 0 {
			none++
			results("Ears", l, e).refused(t, x, api.ErrPlan)
			continue
		}
		found++
		ok, f := oneway.IsEars(x.n, x.streets, l)
		same(t, fmt.Sprint("Ears ", x, l), list(slowIsEars(x, l), e, ok, f), list(true, api.OK, true, api.OK))
		same(t, fmt.Sprint("the number of Ears ", x, l), list(len(l)), list(len(x.streets)-x.n+1))
	}
	if found < 200 || none < 200 {
		t.Error("too few quarters with or without ears:", found, none)
	}
}

func TestP5_4IsEars(t *testing.T) {
	// A ring 0 1 2, a way from the corner 0 over 3 to 2, and a ring that begins at the corner 3.
	x := quarter{5, joined(0, 1, 1, 2, 2, 0, 0, 3, 3, 2, 3, 4, 4, 3)}
	for _, c := range []struct {
		x     quarter
		lists [][]int
		want  bool
	}{
		{x, [][]int{{0, 1, 2}, {3, 4}, {5, 6}}, true}, {x, [][]int{{2, 1, 0}, {4, 3}, {6, 5}}, true},
		{x, [][]int{{0, 1, 4, 3}, {2}, {5, 6}}, true}, {x, [][]int{{3, 4, 2}, {5, 6}, {0, 1}}, true},
		// Not from the corner 0; not from a corner that is there; not to one; over one that is there.
		{x, [][]int{{1, 2, 0}, {3, 4}, {5, 6}}, false}, {x, [][]int{{5, 6}, {0, 1, 2}, {3, 4}}, false}, {x, [][]int{{0, 1, 2}, {5, 6}, {3, 4}}, false},
		{x, [][]int{{0, 1, 2}, {3}, {4}, {5, 6}}, false}, {x, [][]int{{0, 1, 2}, {3, 5, 6, 4}}, false}, {x, [][]int{{0, 1, 2, 3, 4}, {5, 6}}, false},
		{x, [][]int{{0, 1, 2}, {4, 3}, {5}, {6}}, false}, {x, [][]int{{0, 1}, {2}, {3, 4}, {5, 6}}, false},
		// Not walked along one after the other; a street twice, in one ear or in two; one missing; an empty ear; more than there is.
		{x, [][]int{{0, 2, 1}, {3, 4}, {5, 6}}, false}, {x, [][]int{{0, 0}, {1, 2}, {3, 4}, {5, 6}}, false}, {x, [][]int{{0, 1, 2}, {3, 4}, {5, 6}, {2}}, false},
		{x, [][]int{{0, 1, 2}, {3, 4}, {5, 5}}, false}, {x, [][]int{{0, 1, 2}, {3, 4}}, false}, {x, [][]int{{0, 1, 4, 3}, {5, 6}}, false},
		{x, [][]int{{0, 1, 2}, {3, 4}, {5, 6}, {}}, false}, {x, [][]int{{}, {0, 1, 2}, {3, 4}, {5, 6}}, false}, {x, nil, false}, {x, [][]int{{}}, false},
		{x, [][]int{{0, 1, 2}, {3, 4}, {5, 7}}, false}, {x, [][]int{{0, 1, 2}, {3, 4}, {5, 6}, {7}}, false}, {x, [][]int{{-1}}, false},
		{x, [][]int{{0, 1, 2}, {3, 4}, {5, math.MaxInt}}, false}, {x, [][]int{{math.MinInt}, {math.MaxInt}}, false}, {x, [][]int{{64}, {0, 65}}, false},
		{x, [][]int{make([]int, 100000)}, false}, {x, make([][]int, 100000), false},
		// A first ear does not come by the corner 0 on its way.
		{eight(), [][]int{{0, 1, 2}, {3, 4, 5}}, true}, {eight(), [][]int{{0, 1, 2, 3, 4, 5}}, false}, {eight(), [][]int{{3, 4, 5}, {2, 1, 0}}, true},
		{quarter{2, joined(0, 1, 0, 1, 1, 0)}, [][]int{{2, 0}, {1}}, true}, {quarter{2, joined(0, 1, 0, 1, 1, 0)}, [][]int{{1}, {2, 0}}, false},
		// A street to the last corner is missing.
		{quarter{4, ring(3).streets}, [][]int{{0, 1, 2}}, false}, {quarter{2, joined(0, 1)}, [][]int{{0}}, false}, {quarter{2, joined(0, 1)}, [][]int{{0, 0}}, false},
		{quarter{1, nil}, nil, true}, {quarter{1, nil}, [][]int{}, true}, {quarter{1, nil}, [][]int{{}}, false}, {quarter{1, nil}, [][]int{{0}}, false}, {quarter{2, nil}, nil, false},
	} {
		ok, e := oneway.IsEars(c.x.n, c.x.streets, c.lists)
		if ok != c.want || e != api.OK {
			t.Error("IsEars", c.x, len(c.lists), c.lists[:min(len(c.lists), 5)], ok, e)
		}
	}
}

// cuts returns all ways to cut a list into lists.
func cuts(l []int) [][][]int {
	if len(l) == 0 {
		return [][][]int{nil}
	}
	var all [][][]int
	for k := 1; k <= len(l); k++ {
		for _, rest := range cuts(l[k:]) {
			all = append(all, append([][]int{l[:k]}, rest...))
		}
	}
	return all
}

// orders returns all orders of the numbers below many.
func orders(many int) [][]int {
	if many == 0 {
		return [][]int{nil}
	}
	var all [][]int
	for _, l := range orders(many - 1) {
		for k := range many {
			all = append(all, slices.Insert(slices.Clone(l), k, many-1))
		}
	}
	return all
}

// changed returns lists with something changed that may make them no ears.
func changed(r *rand.Rand, lists [][]int) [][]int {
	var other [][]int
	for _, l := range lists {
		other = append(other, slices.Clone(l))
	}
	i, j := r.Intn(len(other)), r.Intn(len(other))
	k := r.Intn(len(other[i]))
	switch r.Intn(6) {
	case 0:
		slices.Reverse(other[i])
	case 1:
		other[i], other[j] = other[j], other[i]
	case 2:
		return slices.Delete(other, i, i+1)
	case 3:
		other[i] = slices.Concat(other[i][k:], other[i][:k])
	case 4:
		return slices.Insert(other, i+1, slices.Clone(other[i][k:]))
	case 5:
		other[i], other[j] = append(other[i][:k:k], other[j]...), other[i][k:]
	}
	return other
}

func TestP5_4Changed(t *testing.T) {
	r := rand.New(rand.NewSource(8))
	right, wrong := 0, 0
	for _, x := range append(someQuarters(1500, api.MaxStreets), eight().twice(), complete(5), ring(7).twice()) {
		l, e := oneway.Ears(x.n, x.streets)
		for k := 0; k < 12 && e == api.OK && len(l) > 0; k++ {
			other := changed(r, l)
			want := slowIsEars(x, other)
			if want {
				right++
			} else {
				wrong++
			}
			ok, f := oneway.IsEars(x.n, x.streets, other)
			same(t, fmt.Sprint("IsEars ", x, other), list(ok, f), list(want, api.OK))
		}
	}
	if right < 500 || wrong < 500 {
		t.Error("too few ears, or too few others:", right, wrong)
	}
}

// All lists of lists that have all streets, and thereby: there are ears exactly if Ears returns some.
func TestP5_4All(t *testing.T) {
	quarters := someQuarters(120, 4)
	for _, x := range append(quarters, quarter{4, joined(0, 1, 1, 2, 2, 0, 2, 3, 0, 3)}, quarter{3, joined(1, 2, 2, 1, 0, 1, 2, 0, 0, 1)}) {
		found := false
		for _, order := range orders(len(x.streets)) {
			for _, lists := range cuts(order) {
				want := slowIsEars(x, lists)
				found = found || want
				ok, e := oneway.IsEars(x.n, x.streets, lists)
				same(t, fmt.Sprint("IsEars ", x, lists), list(ok, e), list(want, api.OK))
			}
		}
		_, e := oneway.Ears(x.n, x.streets)
		same(t, fmt.Sprint("Ears ", x), list(e == api.OK), list(found))
	}
}

func TestP5_5(t *testing.T) {
	for n, want := range []int{0, 0, 0, 2, 3, 2} {
		if x := complete(n); n > 2 {
			_, width, e := oneway.Narrowest(x.n, x.streets)
			same(t, fmt.Sprint("Narrowest of all streets ", n), list(width, e), list(want, api.OK))
		}
	}
	for _, x := range some() {
		best, least := "", never
		for _, signs := range everySigns(len(x.streets)) {
			most := slowWidth(x, signs)
			width, e := oneway.Width(x.n, x.streets, signs)
			if most >= never {
				results("Width", width, e).refused(t, list(x, signs), api.ErrPlan)
				continue
			}
			same(t, fmt.Sprint("Width ", x, signs), list(width, e), list(most, api.OK))
			if most < least {
				best, least = signs, most
			}
		}
		signs, width, e := oneway.Narrowest(x.n, x.streets)
		if least == never {
			results("Narrowest", signs, width, e).refused(t, x, api.ErrPlan)
			continue
		}
		same(t, fmt.Sprint("Narrowest ", x), list(signs, width, e), list(best, least, api.OK))
	}
}

func TestP5_6(t *testing.T) {
	for _, c := range []struct {
		x    quarter
		want string
	}{
		{quarter{3, joined(0, 1, 1, 2)}, "<<"}, {quarter{2, joined(0, 1, 0, 1)}, "<>"}, {quarter{2, joined(0, 1, 1, 0)}, "<<"},
		{quarter{4, joined(0, 1, 0, 2, 0, 3)}, "<<>"}, {quarter{2, slices.Repeat(joined(0, 1), 5)}, "<<<>>"},
		// A quarter need not be connected.
		{quarter{7, joined(0, 1, 5, 6, 5, 6)}, "<<>"},
	} {
		signs, e := oneway.Even(c.x.n, c.x.streets)
		same(t, fmt.Sprint("Even ", c.x), list(signs, e), list(c.want, api.OK))
	}
	for _, x := range some() {
		all := everySigns(len(x.streets))
		first := slices.IndexFunc(all, func(signs string) bool { return slowEven(x, signs) })
		signs, e := oneway.Even(x.n, x.streets)
		same(t, fmt.Sprint("Even ", x), list(signs, e), list(all[first], api.OK))
	}
}

// differ checks that Differ returns a list as asked for, or that there is none.
func differ(t *testing.T, x quarter, a, b string, want api.Errno) {
	t.Helper()
	l, e := oneway.Differ(x.n, x.streets, a, b)
	if want != api.OK {
		results("Differ", l, e).refused(t, list(x, a, b), want)
		return
	}
	if e != api.OK || !slowDiffer(x, a, b, l) {
		t.Error("Differ", x, a, b, l, e)
	}
}

// apart reports whether some of these round trips have no street in common, and exactly the streets that differ.
func apart(x quarter, a, b string, all, chosen [][]int) bool {
	if slowDiffer(x, a, b, chosen) {
		return true
	}
	for k, l := range all {
		if apart(x, a, b, all[k+1:], append(slices.Clone(chosen), l)) {
			return true
		}
	}
	return false
}

func TestP5_7(t *testing.T) {
	x := eight()
	differ(t, x, ">>>>>>", "<<<<<<", api.OK)
	differ(t, x, ">>>>>>", "<<<>>>", api.OK)
	differ(t, x, ">>>>>>", ">>>>>>", api.OK)
	differ(t, x, ">>>>>>", "<<>>>>", api.ErrPlan)
	differ(t, x, ">><>>>", "<<><<<", api.ErrPlan)
	differ(t, quarter{7, joined(0, 1, 1, 0, 5, 6, 6, 5)}, ">>>>", "<<<<", api.OK)
	differ(t, quarter{2, joined(0, 1)}, ">", "<", api.ErrPlan)
	// All round trips through the corner 0, and more streets than a round trip has corners.
	differ(t, complete(5), "><><><><><", ">><>><>><>", api.ErrPlan)
	differ(t, ring(7).twice(), strings.Repeat(">", 14), strings.Repeat("<", 14), api.OK)
	for _, x := range someQuarters(100, 5) {
		for _, a := range everySigns(len(x.streets)) {
			all := slowRounds(x, a)
			// Each round trip once is enough, beginning with its least street.
			all = slices.DeleteFunc(all, func(l []int) bool { return slices.Min(l) != l[0] })
			for _, b := range everySigns(len(x.streets)) {
				want := api.ErrPlan
				if apart(x, a, b, all, nil) {
					want = api.OK
				}
				differ(t, x, a, b, want)
			}
		}
	}
}
