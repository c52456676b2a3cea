package stamp_test

import (
	"fmt"
	"math"
	"reflect"
	"slices"
	"testing"

	"trishaw/api"
	"trishaw/stamp"
)

func list(x ...any) []any { return x }

// same compares what a call returned, its error last, with what is expected; an empty list may be nil.
func same(t *testing.T, what string, got, want []any) {
	t.Helper()
	if fmt.Sprint(got) != fmt.Sprint(want) {
		t.Errorf("%s: got %v, want %v", what, got, want)
	}
}

// refused checks that a call returned an error, and otherwise nothing.
func refused(t *testing.T, what string, want api.Errno, got ...any) {
	t.Helper()
	last := len(got) - 1
	if got[last] != want {
		t.Errorf("%s: got error %v, want %v", what, got[last], want)
	}
	for _, x := range got[:last] {
		v := reflect.ValueOf(x)
		if !v.IsZero() && !(v.Kind() == reflect.Slice && v.Len() == 0) {
			t.Errorf("%s: %v beside the error %v", what, x, want)
		}
	}
}

// refusedTicket checks that all functions with places and values return an error, whatever the amount is.
func refusedTicket(t *testing.T, h int, values []int, want api.Errno) {
	t.Helper()
	what := fmt.Sprint(" ", h, values)
	for _, amount := range []int{0, 1, -1, 10000, math.MaxInt, math.MinInt} {
		l, e := stamp.Pay(h, values, amount)
		refused(t, fmt.Sprint("Pay", what, amount), want, l, e)
		n, e := stamp.Ways(h, values, amount)
		refused(t, fmt.Sprint("Ways", what, amount), want, n, e)
	}
	l, e := stamp.Fewest(h, values)
	refused(t, "Fewest"+what, want, l, e)
	n, e := stamp.Range(h, values)
	refused(t, "Range"+what, want, n, e)
	l, e = stamp.Holes(h, values)
	refused(t, "Holes"+what, want, l, e)
	v, n, e := stamp.Next(h, values)
	refused(t, "Next"+what, want, v, n, e)
	n, e = stamp.Greedy(h, values)
	refused(t, "Greedy"+what, want, n, e)
}

// notPlaces are numbers that are no number of places.
func notPlaces() []int { return []int{math.MinInt, -1, 0, 7, 8, 100, math.MaxInt} }

// notValues are lists, short enough, that are no values.
func notValues() [][]int {
	return [][]int{
		nil, {}, {0}, {-1}, {201}, {math.MinInt}, {math.MaxInt}, {0, 1}, {1, 1}, {2, 1}, {1, 3, 2}, {1, 2, 2}, {1, 201}, {200, 201}, {1, math.MaxInt},
		{math.MinInt, 1}, {1, 2, 3, 4, 5, 5}, {1, 2, 3, 4, 5, 201}, {0, 1, 2, 3, 4, 5}, make([]int, 6),
	}
}

// tooMany are lists of more than 6 numbers, values or not.
func tooMany() [][]int {
	return [][]int{{1, 2, 3, 4, 5, 6, 7}, make([]int, 7), {1, 2, 3, 4, 5, 6, 201}, slices.Repeat([]int{math.MaxInt}, 1000)}
}

// First the number of places, then that of the values, then the values.
func TestTicketErrors(t *testing.T) {
	for _, h := range notPlaces() {
		for _, values := range slices.Concat([][]int{{1}, {1, 2, 3, 4, 5, 6}}, notValues(), tooMany()) {
			refusedTicket(t, h, values, api.ErrArg)
		}
	}
	for h := 1; h <= 6; h++ {
		for _, values := range tooMany() {
			refusedTicket(t, h, values, api.ErrLimit)
		}
		for _, values := range notValues() {
			refusedTicket(t, h, values, api.ErrArg)
		}
	}
}

func TestExamples(t *testing.T) {
	n, e := stamp.Range(2, []int{1, 3})
	same(t, "Range of the first example", list(n, e), list(4, api.OK))
	l, e := stamp.Holes(2, []int{1, 3})
	same(t, "Holes of the first example", list(l, e), list([]int{5}, api.OK))
	for _, c := range []struct {
		h, k   int
		values []int
		n      int
	}{{2, 2, []int{1, 2}, 4}, {3, 2, []int{1, 3}, 7}, {2, 3, []int{1, 3, 4}, 8}} {
		l, n, e := stamp.Best(c.h, c.k)
		same(t, fmt.Sprint("Best ", c.h, c.k), list(l, n, e), list(c.values, c.n, api.OK))
	}
	l, e = stamp.Mirrored([]int{1, 3, 4})
	same(t, "Mirrored of the third example", list(l, e), list([]int{1, 3, 4}, api.OK))
	n, e = stamp.Ways(2, []int{1, 2, 3}, 4)
	same(t, "Ways of the third example", list(n, e), list(2, api.OK))
	l, e = stamp.Pay(2, []int{1, 2, 3}, 4)
	same(t, "Pay of the third example", list(l, e), list([]int{2, 2}, api.OK))
}

func TestP4_1(t *testing.T) {
	for _, c := range []struct {
		h, amount int
		values    []int
		want      []int
		e         api.Errno
	}{
		{1, 0, []int{200}, nil, api.OK}, {1, 200, []int{200}, []int{200}, api.OK}, {1, 199, []int{200}, nil, api.ErrPlan},
		{6, 1200, []int{200}, slices.Repeat([]int{200}, 6), api.OK},
		{6, 12, []int{1, 5, 6}, []int{6, 6}, api.OK}, {6, 10, []int{1, 5, 6}, []int{5, 5}, api.OK},
		{4, 10, []int{1, 2, 4, 5, 6, 8}, []int{5, 5}, api.OK}, {3, 9, []int{1, 3, 4, 7}, []int{3, 3, 3}, api.OK}, {3, 9, []int{1, 3, 8}, []int{1, 8}, api.OK},
		{3, 9, []int{1, 3, 5}, []int{3, 3, 3}, api.OK}, {2, 9, []int{1, 3, 5}, nil, api.ErrPlan},
	} {
		l, e := stamp.Pay(c.h, c.values, c.amount)
		same(t, fmt.Sprint("Pay ", c.h, c.values, c.amount), list(l, e), list(c.want, c.e))
	}
	for _, x := range slices.Concat(smallTickets(), someTickets(120)) {
		var few []int
		for amount, lists := range paying(x) {
			l, e := stamp.Pay(x.h, x.values, amount)
			if len(lists) == 0 {
				refused(t, fmt.Sprint("Pay ", x, amount), api.ErrPlan, l, e)
				few = append(few, -1)
				continue
			}
			best := slowPay(lists)
			same(t, fmt.Sprint("Pay ", x, amount), list(l, e), list(best, api.OK))
			few = append(few, len(best))
		}
		l, e := stamp.Fewest(x.h, x.values)
		same(t, fmt.Sprint("Fewest ", x), list(l, e), list(few, api.OK))
	}
}

// An amount is out of its range before it is found not to be payable; amounts from 0 to h times the greatest value are not.
func TestP4_1Errors(t *testing.T) {
	for _, x := range someTickets(60) {
		for _, amount := range []int{-1, math.MinInt, x.most() + 1, x.most() + x.greatest(), math.MaxInt} {
			l, e := stamp.Pay(x.h, x.values, amount)
			refused(t, fmt.Sprint("Pay ", x, amount), api.ErrRange, l, e)
		}
		for _, amount := range []int{0, x.most()} {
			l, e := stamp.Pay(x.h, x.values, amount)
			same(t, fmt.Sprint("Pay ", x, amount), list(sum(l), e), list(amount, api.OK))
		}
	}
}

func TestP4_2(t *testing.T) {
	for _, c := range []struct {
		x     ticket
		n     int
		holes []int
	}{
		{ticket{2, []int{2}}, 0, []int{1, 3}}, {ticket{1, []int{1}}, 1, nil}, {ticket{6, []int{1}}, 6, nil},
		{ticket{1, []int{2, 5}}, 0, []int{1, 3, 4}}, {ticket{2, []int{1, 5}}, 2, []int{3, 4, 7, 8, 9}}, {ticket{2, []int{1, 3, 5, 6}}, 12, nil},
	} {
		n, e := stamp.Range(c.x.h, c.x.values)
		same(t, fmt.Sprint("Range ", c.x), list(n, e), list(c.n, api.OK))
		l, e := stamp.Holes(c.x.h, c.x.values)
		same(t, fmt.Sprint("Holes ", c.x), list(l, e), list(c.holes, api.OK))
	}
	for _, x := range slices.Concat(smallTickets(), someTickets(300)) {
		n, e := stamp.Range(x.h, x.values)
		same(t, fmt.Sprint("Range ", x), list(n, e), list(slowRange(x.h, x.values), api.OK))
		var holes []int
		for amount, lists := range paying(x) {
			if len(lists) == 0 {
				holes = append(holes, amount)
			}
		}
		l, e := stamp.Holes(x.h, x.values)
		same(t, fmt.Sprint("Holes ", x), list(l, e), list(holes, api.OK))
	}
}

func TestP4_3(t *testing.T) {
	for _, c := range []struct {
		x            ticket
		amount, want int
	}{
		{ticket{6, []int{1, 2, 3, 4, 5, 6}}, 0, 1}, {ticket{6, []int{1, 2, 3, 4, 5, 6}}, 36, 1}, {ticket{6, []int{1, 2, 3, 4, 5, 6}}, 6, 11},
		{ticket{2, []int{1, 3}}, 5, 0}, {ticket{1, []int{200}}, 200, 1}, {ticket{3, []int{1, 2, 3}}, 6, 3},
	} {
		n, e := stamp.Ways(c.x.h, c.x.values, c.amount)
		same(t, fmt.Sprint("Ways ", c.x, c.amount), list(n, e), list(c.want, api.OK))
	}
	for _, x := range slices.Concat(smallTickets(), someTickets(120)) {
		for amount, lists := range paying(x) {
			n, e := stamp.Ways(x.h, x.values, amount)
			same(t, fmt.Sprint("Ways ", x, amount), list(n, e), list(len(lists), api.OK))
		}
		for _, amount := range []int{-1, math.MinInt, x.most() + 1, math.MaxInt} {
			n, e := stamp.Ways(x.h, x.values, amount)
			refused(t, fmt.Sprint("Ways ", x, amount), api.ErrRange, n, e)
		}
	}
}

// No amount above all numbers of lists can be reached (P4.7), so that no value above them adds to the range.
func TestP4_4Best(t *testing.T) {
	for h := 1; h <= 6; h++ {
		for k := 1; k <= 4 && h*k <= 16; k++ {
			values, n := slowBest(h, k, choose(h+k, h)+1)
			l, most, e := stamp.Best(h, k)
			same(t, fmt.Sprint("Best ", h, k), list(l, most, e), list(values, n, api.OK))
		}
	}
}

func TestP4_4BestErrors(t *testing.T) {
	for _, k := range []int{math.MinInt, -1, 0, 1, 2, 3, 4, 5, 6, 16, math.MaxInt, math.MaxInt/2 + 1} {
		for _, h := range slices.Concat(notPlaces(), []int{1, 2, 3, 4, 5, 6}) {
			if h >= 1 && h <= 6 && k >= 1 && k <= 4 && h*k <= 16 {
				continue
			}
			l, n, e := stamp.Best(h, k)
			refused(t, fmt.Sprint("Best ", h, k), api.ErrArg, l, n, e)
		}
	}
}

func TestP4_4Next(t *testing.T) {
	for _, c := range []struct {
		x    ticket
		v, n int
	}{
		{ticket{2, []int{1, 3}}, 4, 8}, {ticket{2, []int{2}}, 1, 4}, {ticket{1, []int{200}}, 1, 1}, {ticket{1, []int{1, 2, 3, 4, 5}}, 6, 6},
		{ticket{1, []int{1, 3}}, 2, 3}, {ticket{6, []int{196, 197, 198, 199, 200}}, 1, 6}, {ticket{1, []int{2, 3, 4, 5, 6}}, 1, 6},
		// Without the limit 205 would be better for the first of these.
		{ticket{6, []int{1, 4, 13, 32, 80}}, 200, 330}, {ticket{6, []int{1, 4, 12, 30, 79}}, 200, 329}, {ticket{6, []int{1, 5, 12, 38, 58}}, 198, 334},
	} {
		v, n, e := stamp.Next(c.x.h, c.x.values)
		same(t, fmt.Sprint("Next ", c.x), list(v, n, e), list(c.v, c.n, api.OK))
	}
	tied := 0
	for _, x := range slices.Concat(smallTickets(), someTickets(200)) {
		if len(x.values) == api.MaxStamps {
			continue
		}
		value, most := slowNext(x)
		v, n, e := stamp.Next(x.h, x.values)
		same(t, fmt.Sprint("Next ", x), list(v, n, e), list(value, most, api.OK))
		for v++; v <= 200; v++ {
			if !slices.Contains(x.values, v) && slowRange(x.h, append(slices.Clone(x.values), v)) == most {
				tied++
				break
			}
		}
	}
	if tied < 50 {
		t.Error("too few tickets have several best values:", tied)
	}
}

func TestP4_4NextErrors(t *testing.T) {
	for _, values := range [][]int{{1, 2, 3, 4, 5, 6}, {195, 196, 197, 198, 199, 200}} {
		for h := 1; h <= 6; h++ {
			v, n, e := stamp.Next(h, values)
			refused(t, fmt.Sprint("Next ", h, values), api.ErrFull, v, n, e)
		}
	}
}

func TestP4_5(t *testing.T) {
	for _, c := range []struct{ values, want []int }{
		{[]int{1}, []int{1}}, {[]int{200}, []int{200}}, {[]int{1, 2}, []int{1, 2}}, {[]int{1, 200}, []int{199, 200}}, {[]int{199, 200}, []int{1, 200}},
		{[]int{1, 2, 7}, []int{5, 6, 7}}, {[]int{1, 2, 4, 8, 16, 32}, []int{16, 24, 28, 30, 31, 32}},
	} {
		l, e := stamp.Mirrored(c.values)
		same(t, fmt.Sprint("Mirrored ", c.values), list(l, e), list(c.want, api.OK))
	}
	for _, x := range someTickets(100) {
		want := []int{x.greatest()}
		for _, v := range x.values[:len(x.values)-1] {
			want = append(want, x.greatest()-v)
		}
		slices.Sort(want)
		l, e := stamp.Mirrored(x.values)
		same(t, fmt.Sprint("Mirrored ", x), list(l, e), list(want, api.OK))
	}
}

func TestP4_5Errors(t *testing.T) {
	for _, values := range tooMany() {
		l, e := stamp.Mirrored(values)
		refused(t, fmt.Sprint("Mirrored ", values), api.ErrLimit, l, e)
	}
	for _, values := range notValues() {
		l, e := stamp.Mirrored(values)
		refused(t, fmt.Sprint("Mirrored ", values), api.ErrArg, l, e)
	}
}

func TestP4_6(t *testing.T) {
	for _, c := range []struct {
		x    ticket
		want int
		e    api.Errno
	}{
		{ticket{2, []int{1, 3, 4}}, 6, api.OK}, {ticket{3, []int{1, 3, 4}}, 10, api.OK}, {ticket{3, []int{1, 2}}, 0, api.ErrPlan},
		{ticket{2, []int{2, 3}}, 4, api.OK}, {ticket{1, []int{2, 3}}, 0, api.ErrPlan}, {ticket{6, []int{200}}, 0, api.ErrPlan},
		{ticket{5, []int{1, 10, 25}}, 30, api.OK}, {ticket{6, []int{1, 10, 25}}, 31, api.OK}, {ticket{2, []int{1, 10, 19}}, 0, api.ErrPlan}, {ticket{6, []int{199, 200}}, 398, api.OK},
	} {
		n, e := stamp.Greedy(c.x.h, c.x.values)
		same(t, fmt.Sprint("Greedy ", c.x), list(n, e), list(c.want, c.e))
	}
	for _, x := range slices.Concat(smallTickets(), someTickets(300)) {
		n, e := stamp.Greedy(x.h, x.values)
		want := slices.IndexFunc(paying(x), func(lists [][]int) bool {
			return len(lists) > 0 && !greedyPays(x, sum(lists[0]))
		})
		if want < 0 {
			refused(t, fmt.Sprint("Greedy ", x), api.ErrPlan, n, e)
			continue
		}
		same(t, fmt.Sprint("Greedy ", x), list(n, e), list(want, api.OK))
	}
}
