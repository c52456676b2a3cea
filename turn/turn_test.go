package turn_test

import (
	"fmt"
	"math"
	"math/big"
	"math/rand"
	"reflect"
	"slices"
	"testing"

	"trishaw/api"
	"trishaw/turn"
)

func same(t *testing.T, what string, got, want any) {
	t.Helper()
	if !reflect.DeepEqual(got, want) {
		t.Errorf("%s: got %v, want %v", what, got, want)
	}
}

// plain makes an empty list nil, as both may be returned.
func plain(list []int) []int {
	if len(list) == 0 {
		return nil
	}
	return list
}

func half() api.Ratio { return api.Ratio{Num: 1, Den: 2} }
func zero() api.Ratio { return api.Ratio{Num: 0, Den: 1} }

func nines(n int) []int { return slices.Repeat([]int{9}, n) }

// call is a call of a function with its name and what it returned.
type call struct {
	name  string
	value any
	errno api.Errno
}

func (c call) refused(t *testing.T, why string, want api.Errno) {
	t.Helper()
	empty := c.value == nil || reflect.ValueOf(c.value).IsZero()
	if v := reflect.ValueOf(c.value); v.Kind() == reflect.Slice {
		empty = v.Len() == 0
	}
	if c.errno != want || !empty {
		t.Errorf("%s, %s: got %v, %d, want error %d", c.name, why, c.value, c.errno, want)
	}
}

func withDays(shares, days []int) []call {
	a, e := turn.Deviation(shares, days)
	b, f := turn.Quota(shares, days)
	return []call{{"Deviation", a, e}, {"Quota", b, f}}
}

func withMany(shares []int, many int) []call {
	a, e := turn.Greedy(shares, many)
	b, f := turn.Fair(shares, many)
	return []call{{"Greedy", a, e}, {"Fair", b, f}}
}

func withBound(shares []int, bound api.Ratio) []call {
	a, e := turn.Windows(shares, bound)
	b, f := turn.Feasible(shares, bound)
	return []call{{"Windows", a, e}, {"Feasible", b, f}}
}

func withShares(shares []int) []call {
	a, e := turn.Least(shares)
	b, f := turn.Round(shares)
	return []call{{"Least", a, e}, {"Round", b, f}}
}

// Shares: ErrLimit first, whatever is wrong with the rest.
func TestSharesErrors(t *testing.T) {
	bad := api.Ratio{Num: 2, Den: 1}
	for _, c := range []struct {
		shares []int
		want   api.Errno
	}{
		{nil, api.ErrArg}, {[]int{}, api.ErrArg},
		{[]int{0}, api.ErrArg}, {[]int{-1}, api.ErrArg}, {[]int{21}, api.ErrArg},
		{[]int{1, 2, 0}, api.ErrArg}, {[]int{1, 2, 21}, api.ErrArg},
		{[]int{math.MaxInt}, api.ErrArg}, {[]int{math.MinInt, 1}, api.ErrArg},
		{nines(9), api.ErrLimit}, {make([]int, 9), api.ErrLimit}, {nines(1000), api.ErrLimit},
	} {
		calls := slices.Concat(
			withDays(c.shares, nil), withDays(c.shares, make([]int, 401)), withDays(c.shares, []int{-1}),
			withMany(c.shares, 3), withMany(c.shares, -1), withMany(c.shares, 401),
			withBound(c.shares, half()), withBound(c.shares, bad), withShares(c.shares))
		for _, x := range calls {
			x.refused(t, fmt.Sprint("shares ", c.shares), c.want)
		}
	}
	for _, shares := range [][]int{{1}, {20}, {1, 20, 1, 20, 1, 20, 1, 20}} {
		for _, x := range slices.Concat(withDays(shares, nil), withMany(shares, 1), withBound(shares, half()), withShares(shares)) {
			same(t, fmt.Sprint(x.name, shares), x.errno, api.OK)
		}
	}
}

func TestP1_1(t *testing.T) {
	for _, c := range []struct {
		shares, days []int
		deviation    api.Ratio
		quota        bool
	}{
		{[]int{1, 1}, []int{0, 1, 0, 1}, half(), true},
		{[]int{1, 1}, nil, zero(), true},
		{[]int{7}, nil, zero(), true},
		{[]int{7}, slices.Repeat([]int{0}, 400), zero(), true},
		{[]int{1, 1}, []int{0, 0}, api.Ratio{Num: 1, Den: 1}, false},
		{[]int{1, 2}, []int{0, 0, 0}, api.Ratio{Num: 2, Den: 1}, false},
		{[]int{1, 2}, []int{1, 1}, api.Ratio{Num: 2, Den: 3}, true},
		{[]int{1, 2}, []int{0, 0}, api.Ratio{Num: 4, Den: 3}, false},
		{[]int{2, 2}, []int{1, 1, 0, 0}, api.Ratio{Num: 1, Den: 1}, false},
		{[]int{1, 20}, slices.Repeat([]int{0}, 400), api.Ratio{Num: 8000, Den: 21}, false},
	} {
		d, e := turn.Deviation(c.shares, c.days)
		q, f := turn.Quota(c.shares, c.days)
		same(t, fmt.Sprint("Deviation ", c.shares, c.days), []any{d, e}, []any{c.deviation, api.OK})
		same(t, fmt.Sprint("Quota ", c.shares, c.days), []any{q, f}, []any{c.quota, api.OK})
	}
	r := rand.New(rand.NewSource(2))
	for range 2000 {
		shares := randomShares(r, 4, 5)
		days := randomDays(r, len(shares), r.Intn(7))
		d, e := turn.Deviation(shares, days)
		q, f := turn.Quota(shares, days)
		same(t, fmt.Sprint("Deviation ", shares, days), []any{d, e}, []any{ratio(slowDeviation(shares, days)), api.OK})
		same(t, fmt.Sprint("Quota ", shares, days), []any{q, f}, []any{slowQuota(shares, days), api.OK})
	}
}

func TestP1_1Errors(t *testing.T) {
	for _, c := range []struct {
		shares, days []int
		want         api.Errno
	}{
		{[]int{1}, []int{1}, api.ErrArg}, {[]int{1, 1}, []int{0, 2}, api.ErrArg}, {[]int{1, 1}, []int{-1}, api.ErrArg},
		{[]int{1, 1}, []int{0, math.MaxInt}, api.ErrArg}, {[]int{1, 1}, []int{math.MinInt}, api.ErrArg},
		{[]int{1}, make([]int, 401), api.ErrLimit}, {[]int{1}, nines(401), api.ErrLimit},
	} {
		for _, x := range withDays(c.shares, c.days) {
			x.refused(t, fmt.Sprint(c.shares, len(c.days), " days"), c.want)
		}
	}
}

func TestP1_2(t *testing.T) {
	for _, c := range []struct {
		shares       []int
		many         int
		greedy, fair []int
	}{
		{[]int{1, 1}, 4, []int{0, 1, 0, 1}, []int{0, 1, 0, 1}},
		{[]int{3, 1}, 4, []int{0, 0, 1, 0}, []int{0, 0, 1, 0}},
		{[]int{3, 1}, 8, []int{0, 0, 1, 0, 0, 0, 1, 0}, []int{0, 0, 1, 0, 0, 0, 1, 0}},
		{[]int{7}, 3, []int{0, 0, 0}, []int{0, 0, 0}},
		{[]int{1, 1}, 0, nil, nil},
		{[]int{5}, 0, nil, nil},
		{[]int{1, 1, 1}, 6, []int{0, 1, 2, 0, 1, 2}, []int{0, 1, 2, 0, 1, 2}},
	} {
		g, e := turn.Greedy(c.shares, c.many)
		f, h := turn.Fair(c.shares, c.many)
		same(t, fmt.Sprint("Greedy ", c.shares, c.many), []any{plain(g), e}, []any{plain(c.greedy), api.OK})
		same(t, fmt.Sprint("Fair ", c.shares, c.many), []any{plain(f), h}, []any{plain(c.fair), api.OK})
	}
	differ := false
	for i, shares := range slices.Concat(smallShares(7), someShares(200)) {
		many := i%60 + 1
		g, e := turn.Greedy(shares, many)
		f, h := turn.Fair(shares, many)
		same(t, fmt.Sprint("Greedy ", shares, many), []any{g, e}, []any{slowGreedy(shares, many), api.OK})
		same(t, fmt.Sprint("Fair ", shares, many), []any{f, h}, []any{slowFair(shares, many), api.OK})
		differ = differ || !slices.Equal(f, g)
	}
	if !differ {
		t.Error("Greedy and Fair are not told apart by any shares")
	}
}

func TestP1_2Errors(t *testing.T) {
	for _, many := range []int{-1, 401, math.MaxInt, math.MinInt} {
		for _, x := range slices.Concat(withMany([]int{1}, many), withMany([]int{3, 1}, many)) {
			x.refused(t, fmt.Sprint("many ", many), api.ErrArg)
		}
	}
	for _, x := range slices.Concat(withMany([]int{1}, 400), withMany([]int{3, 1}, 400)) {
		same(t, x.name+" of 400", []any{reflect.ValueOf(x.value).Len(), x.errno}, []any{400, api.OK})
	}
}

func TestP1_3Windows(t *testing.T) {
	for _, c := range []struct {
		shares []int
		bound  api.Ratio
		want   [][]api.Window
	}{
		{[]int{3, 1}, half(), [][]api.Window{{{First: 0, Last: 0}, {First: 1, Last: 2}, {First: 3, Last: 3}}, {{First: 1, Last: 2}}}},
		{[]int{1, 1}, zero(), [][]api.Window{{{First: 0, Last: -1}}, {{First: 0, Last: -1}}}},
		{[]int{2}, zero(), [][]api.Window{{{First: 0, Last: 0}, {First: 1, Last: 1}}}},
		{[]int{2}, api.Ratio{Num: 1, Den: 1}, [][]api.Window{{{First: 0, Last: 1}, {First: 0, Last: 1}}}},
		{[]int{1, 1}, api.Ratio{Num: 1, Den: 1}, [][]api.Window{{{First: 0, Last: 1}}, {{First: 0, Last: 1}}}},
		{[]int{2, 2}, api.Ratio{Num: 1, Den: 3}, [][]api.Window{{{First: 0, Last: -1}, {First: 0, Last: -1}}, {{First: 0, Last: -1}, {First: 0, Last: -1}}}},
	} {
		w, e := turn.Windows(c.shares, c.bound)
		same(t, fmt.Sprint("Windows ", c.shares, c.bound), []any{w, e}, []any{c.want, api.OK})
	}
	for _, shares := range slices.Concat(smallShares(5), someShares(5)) {
		for _, bound := range someBounds() {
			want := make([][]api.Window, len(shares))
			for i, share := range shares {
				for k := 1; k <= share; k++ {
					want[i] = append(want[i], slowWindow(shares, i, k, bound))
				}
			}
			w, e := turn.Windows(shares, bound)
			same(t, fmt.Sprint("Windows ", shares, bound), []any{w, e}, []any{want, api.OK})
		}
	}
}

func TestP1_3Feasible(t *testing.T) {
	for _, shares := range smallShares(6) {
		least, _ := slowLeast(shares)
		for _, bound := range someBounds() {
			ok, e := turn.Feasible(shares, bound)
			same(t, fmt.Sprint("Feasible ", shares, bound), []any{ok, e}, []any{least.Cmp(value(bound)) <= 0, api.OK})
		}
	}
}

func TestP1_3Errors(t *testing.T) {
	for _, b := range []api.Ratio{
		{Num: 2, Den: 4}, {Num: 0, Den: 2}, {Num: 2, Den: 2}, {Num: 3, Den: 2}, {Num: 2, Den: 1}, {Num: -1, Den: 2},
		{}, {Num: 1, Den: 0}, {Num: 1, Den: -2}, {Num: -1, Den: -2}, {Num: 0, Den: -1},
		{Num: 1, Den: api.MaxPart + 1}, {Num: math.MaxInt, Den: math.MaxInt}, {Num: math.MinInt, Den: math.MinInt}, {Num: 1, Den: math.MaxInt}, {Num: math.MinInt, Den: 1},
	} {
		for _, x := range slices.Concat(withBound([]int{1}, b), withBound([]int{3, 1}, b)) {
			x.refused(t, fmt.Sprint("bound ", b), api.ErrArg)
		}
	}
	for _, b := range someBounds() {
		for _, x := range withBound([]int{3, 1}, b) {
			same(t, fmt.Sprint(x.name, b), x.errno, api.OK)
		}
	}
}

func TestP1_4(t *testing.T) {
	for _, c := range []struct {
		shares []int
		least  api.Ratio
		round  []int
	}{
		{[]int{3, 1}, half(), []int{0, 0, 1, 0}},
		{[]int{1, 1, 1}, api.Ratio{Num: 2, Den: 3}, []int{0, 1, 2}},
		{[]int{1, 1}, half(), []int{0, 1}},
		{[]int{1}, zero(), []int{0}},
		{[]int{20}, zero(), make([]int, 20)},
	} {
		least, e := turn.Least(c.shares)
		round, f := turn.Round(c.shares)
		same(t, fmt.Sprint("Least ", c.shares), []any{least, e}, []any{c.least, api.OK})
		same(t, fmt.Sprint("Round ", c.shares), []any{round, f}, []any{c.round, api.OK})
	}
}

func TestP1_4Reference(t *testing.T) {
	check := func(shares []int, deviation *big.Rat, first []int) {
		least, e := turn.Least(shares)
		round, f := turn.Round(shares)
		same(t, fmt.Sprint("Least ", shares), []any{least, e}, []any{ratio(deviation), api.OK})
		same(t, fmt.Sprint("Round ", shares), []any{round, f}, []any{first, api.OK})
	}
	for _, shares := range smallShares(6) {
		deviation, first := slowLeast(shares)
		check(shares, deviation, first)
	}
	r := rand.New(rand.NewSource(5))
	for range 300 {
		shares := randomShares(r, 4, 6)
		deviation, first := pathLeast(shares)
		check(shares, deviation, first)
	}
	for _, shares := range [][]int{{20, 20}, {20, 19, 17}, {20, 13, 1}, {1, 1, 1, 1, 1, 1, 1, 20}, {2, 3, 1, 2, 1, 2, 1, 2}} {
		deviation, first := pathLeast(shares)
		check(shares, deviation, first)
	}
}

func TestP1_5(t *testing.T) {
	for _, c := range []struct {
		days []int
		a, b int
		want []int
	}{
		{[]int{0, 3, 1, 2}, 1, 2, []int{0, 2, 1, 1}},
		{[]int{0, 3, 1, 2}, 0, 1, []int{0, 2, 0, 1}},
		{[]int{0, 7, 6, 5}, 0, 7, []int{0, 0, 6, 5}},
		{[]int{7, 6, 0}, 6, 7, []int{6, 6, 0}},
		{nil, 0, 1, nil},
		{nines(0), 6, 7, nil},
		{slices.Repeat([]int{7}, 400), 2, 3, slices.Repeat([]int{6}, 400)},
	} {
		l, e := turn.Merged(c.days, c.a, c.b)
		same(t, fmt.Sprint("Merged ", c.days, c.a, c.b), []any{plain(l), e}, []any{plain(c.want), api.OK})
	}
	for _, c := range []struct {
		days []int
		a, b int
		want api.Errno
	}{
		{make([]int, 401), 0, 1, api.ErrLimit}, {nines(401), 1, 0, api.ErrLimit},
		{[]int{8}, 0, 1, api.ErrArg}, {[]int{0, -1}, 0, 1, api.ErrArg}, {[]int{math.MinInt, math.MaxInt}, 0, 1, api.ErrArg},
		{nil, 1, 1, api.ErrArg}, {nil, 2, 1, api.ErrArg}, {nil, -1, 2, api.ErrArg}, {nil, 0, 8, api.ErrArg},
		{nil, math.MinInt, math.MaxInt, api.ErrArg}, {nil, 0, math.MaxInt, api.ErrArg}, {nil, math.MinInt, 1, api.ErrArg},
	} {
		l, e := turn.Merged(c.days, c.a, c.b)
		call{"Merged", l, e}.refused(t, fmt.Sprint(len(c.days), " days, ", c.a, c.b), c.want)
	}
}

// Rule 4: no argument is changed, and results are new memory.
func TestMemory(t *testing.T) {
	shares, days := []int{3, 1}, []int{0, 0, 1, 0}
	m, _ := turn.Merged(days, 0, 1)
	clear(m)
	m[0] = 9
	for range 2 {
		g, _ := turn.Greedy(shares, 4)
		f, _ := turn.Fair(shares, 4)
		r, _ := turn.Round(shares)
		w, _ := turn.Windows(shares, half())
		for _, list := range [][]int{g, f, r} {
			same(t, "list", list, []int{0, 0, 1, 0})
			list[0] = 9
		}
		same(t, "window", w[0], []api.Window{{First: 0, Last: 0}, {First: 1, Last: 2}, {First: 3, Last: 3}})
		w[0] = append(w[0][:1], api.Window{First: 9, Last: 9}, api.Window{First: 9, Last: 9}, api.Window{First: 9, Last: 9})
		same(t, "next window", w[1], []api.Window{{First: 1, Last: 2}})
	}
	same(t, "shares", shares, []int{3, 1})
	same(t, "days", days, []int{0, 0, 1, 0})
}
