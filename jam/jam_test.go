package jam_test

import (
	"fmt"
	"math"
	"reflect"
	"slices"
	"testing"

	"trishaw/api"
	"trishaw/jam"
)

func key(x any) string { return fmt.Sprint(x) }

// results compares what a call returned, its error last, with what is expected.
func results(t *testing.T, what string, got, want []any) {
	t.Helper()
	if !reflect.DeepEqual(got, want) {
		t.Errorf("%s: got %v, want %v", what, got, want)
	}
}

func list(x ...any) []any { return x }

// refused checks that a call returned an error, and otherwise nothing.
func refused(t *testing.T, what string, want api.Errno, got ...any) {
	t.Helper()
	last := len(got) - 1
	if got[last] != want {
		t.Errorf("%s: got error %v, want %v", what, got[last], want)
	}
	for _, x := range got[:last] {
		v := reflect.ValueOf(x)
		if !v.IsZero() && !(v.Kind() == reflect.Slice && v.Len() == 0) {
			t.Errorf("%s: %v beside the error %v", what, x, want)
		}
	}
}

func refusedChoice(t *testing.T, g api.Game, choice []int) {
	t.Helper()
	what := fmt.Sprint(" ", g, choice)
	costs, sum, e := jam.Costs(g, choice)
	refused(t, "Costs"+what, api.ErrArg, costs, sum, e)
	n, e := jam.Potential(g, choice)
	refused(t, "Potential"+what, api.ErrArg, n, e)
	next, e := jam.Step(g, choice)
	refused(t, "Step"+what, api.ErrArg, next, e)
	last, steps, e := jam.Settle(g, choice)
	refused(t, "Settle"+what, api.ErrArg, last, steps, e)
}

func refusedGame(t *testing.T, g api.Game) {
	t.Helper()
	settled, e := jam.Settled(g)
	refused(t, fmt.Sprint("Settled ", g), api.ErrArg, settled, e)
	best, sum, e := jam.Best(g)
	refused(t, fmt.Sprint("Best ", g), api.ErrArg, best, sum, e)
}

func refusedLanes(t *testing.T, lanes []api.Lane, want api.Errno) {
	t.Helper()
	what := fmt.Sprint(" ", lanes)
	p, r, e := jam.Balance(lanes)
	refused(t, "Balance"+what, want, p, r, e)
	p, r, e = jam.Cheapest(lanes)
	refused(t, "Cheapest"+what, want, p, r, e)
	for _, p := range []api.Parts{{}, {Nums: []int{1}, Den: 1}, {Nums: []int{1, 0}, Den: 1}, {Nums: []int{1, 1}, Den: 1}, {Nums: make([]int, 9), Den: -1}} {
		r, e := jam.Delay(lanes, p)
		refused(t, fmt.Sprint("Delay", what, p), want, r, e)
		ok, e := jam.InBalance(lanes, p)
		refused(t, fmt.Sprint("InBalance", what, p), want, ok, e)
	}
}

func TestGameErrors(t *testing.T) {
	one, tolls := [][]int{{1}}, [][]int{{1}}
	for _, g := range []api.Game{
		{}, {Routes: one}, {Tolls: tolls}, {Routes: [][]int{}, Tolls: [][]int{}}, {Routes: one, Tolls: [][]int{}}, {Tolls: [][]int{{}}},
		{Routes: slices.Repeat(one, 6), Tolls: [][]int{{1, 1, 1, 1, 1, 1}}},
		{Routes: one, Tolls: slices.Repeat(tolls, 9)},
		{Routes: one, Tolls: slices.Repeat(tolls, 100)},
		{Routes: [][]int{{}}, Tolls: tolls}, {Routes: [][]int{nil}, Tolls: tolls}, {Routes: [][]int{{1}, {}}, Tolls: [][]int{{1, 1}}},
		{Routes: [][]int{{1, 1, 1, 1, 1, 1}}, Tolls: tolls},
		{Routes: [][]int{{0}}, Tolls: tolls}, {Routes: [][]int{{2}}, Tolls: tolls}, {Routes: [][]int{{-1}}, Tolls: tolls}, {Routes: [][]int{{1, 3}}, Tolls: tolls},
		{Routes: [][]int{{256}}, Tolls: slices.Repeat(tolls, 8)}, {Routes: [][]int{{math.MaxInt}}, Tolls: tolls}, {Routes: [][]int{{math.MinInt}}, Tolls: tolls},
		{Routes: one, Tolls: [][]int{{}}}, {Routes: one, Tolls: [][]int{nil}}, {Routes: one, Tolls: [][]int{{1, 2}}},
		{Routes: [][]int{{1}, {1}}, Tolls: [][]int{{1}}}, {Routes: [][]int{{1}, {1}}, Tolls: [][]int{{1, 2, 3}}}, {Routes: [][]int{{1}, {1}}, Tolls: [][]int{{1, 2}, {1}}},
		{Routes: one, Tolls: [][]int{{-1}}}, {Routes: one, Tolls: [][]int{{1001}}}, {Routes: one, Tolls: [][]int{{1}, {math.MaxInt}}}, {Routes: one, Tolls: [][]int{{math.MinInt}}},
	} {
		refusedGame(t, g)
		for _, choice := range [][]int{nil, {0}, {0, 0}, {1}, {-1}, make([]int, len(g.Routes))} {
			refusedChoice(t, g, choice)
		}
	}
}

func TestChoiceErrors(t *testing.T) {
	uneven := api.Game{Routes: [][]int{{1}, {1, 2, 3}}, Tolls: [][]int{{1, 2}, {2, 2}}}
	for _, choice := range [][]int{nil, {}, {0}, {0, 0, 0}, {1, 0}, {0, 3}, {-1, 0}, {0, -1}, {math.MaxInt, 0}, {0, math.MinInt}, make([]int, 1000)} {
		refusedChoice(t, uneven, choice)
	}
}

// Games of the least and greatest size, and with the least and greatest numbers, are games.
func TestGameLimits(t *testing.T) {
	for _, g := range []api.Game{
		{Routes: [][]int{{1}}, Tolls: [][]int{{0}}},
		{Routes: [][]int{{1}}, Tolls: [][]int{{1000}}},
		{Routes: [][]int{{255, 1, 128, 255, 1}}, Tolls: slices.Repeat([][]int{{1000}}, 8)},
		{Routes: slices.Repeat([][]int{{1}}, 5), Tolls: [][]int{{1000, 0, 1000, 0, 1000}}},
		fullGame(),
	} {
		choice := make([]int, len(g.Routes))
		_, _, a := jam.Costs(g, choice)
		_, b := jam.Potential(g, choice)
		_, _, c := jam.Settle(g, choice)
		_, d := jam.Settled(g)
		_, _, e := jam.Best(g)
		results(t, fmt.Sprint("errors of ", g), list(a, b, c, d, e), list(api.OK, api.OK, api.OK, api.OK, api.OK))
	}
}

func TestP2_1(t *testing.T) {
	for _, c := range []struct {
		g                api.Game
		choice, costs    []int
		total, potential int
	}{
		{two(), []int{0, 0}, []int{2, 2}, 4, 3},
		{two(), []int{0, 1}, []int{1, 2}, 3, 3},
		{two(), []int{1, 1}, []int{2, 2}, 4, 4},
		{braess(), []int{2, 0}, []int{3, 4}, 7, 6},
		{spread(), []int{1, 1, 1}, []int{5, 5, 5}, 15, 12},
		{fullGame(), []int{0, 0, 0, 0, 0}, []int{8000, 8000, 8000, 8000, 8000}, 40000, 8888},
		{api.Game{Routes: [][]int{{2}}, Tolls: [][]int{{1000}, {0}}}, []int{0}, []int{0}, 0, 0},
	} {
		costs, total, e := jam.Costs(c.g, c.choice)
		n, f := jam.Potential(c.g, c.choice)
		results(t, fmt.Sprint("Costs ", c.g, c.choice), list(costs, total, e), list(c.costs, c.total, api.OK))
		results(t, fmt.Sprint("Potential ", c.g, c.choice), list(n, f), list(c.potential, api.OK))
	}
	for _, g := range someGames(40) {
		for _, choice := range allChoices(g) {
			costs, total, e := jam.Costs(g, choice)
			n, f := jam.Potential(g, choice)
			wantCosts, wantTotal := slowCosts(g, choice)
			results(t, fmt.Sprint("Costs ", g, choice), list(costs, total, e), list(wantCosts, wantTotal, api.OK))
			results(t, fmt.Sprint("Potential ", g, choice), list(n, f), list(slowPotential(g, choice), api.OK))
		}
	}
}

func TestP2_2(t *testing.T) {
	// The first driver gains by both other routes, equally by the last two; the second one would gain more.
	ties := api.Game{Routes: [][]int{{1, 2, 4, 8}, {1, 16}}, Tolls: [][]int{{9, 9}, {5, 5}, {3, 3}, {3, 3}, {0, 0}}}
	for _, c := range []struct {
		g            api.Game
		choice, next []int
		last         []int
		steps        int
	}{
		{two(), []int{1, 1}, []int{0, 1}, []int{0, 1}, 1},
		{ties, []int{0, 0}, []int{2, 0}, []int{2, 1}, 2},
		{ties, []int{3, 0}, []int{3, 1}, []int{3, 1}, 1},
		{ties, []int{1, 1}, []int{2, 1}, []int{2, 1}, 1},
	} {
		next, e := jam.Step(c.g, c.choice)
		last, steps, f := jam.Settle(c.g, c.choice)
		results(t, fmt.Sprint("Step ", c.g, c.choice), list(next, e), list(c.next, api.OK))
		results(t, fmt.Sprint("Settle ", c.g, c.choice), list(last, steps, f), list(c.last, c.steps, api.OK))
	}
	for _, c := range []struct {
		g      api.Game
		choice []int
	}{{two(), []int{0, 0}}, {two(), []int{0, 1}}, {two(), []int{1, 0}}, {ties, []int{2, 1}}, {ties, []int{3, 1}}, {spread(), []int{0, 0, 0}}, {spread(), []int{1, 1, 1}}} {
		next, e := jam.Step(c.g, c.choice)
		refused(t, fmt.Sprint("Step ", c.g, c.choice), api.ErrPlan, next, e)
		last, steps, f := jam.Settle(c.g, c.choice)
		results(t, fmt.Sprint("Settle ", c.g, c.choice), list(last, steps, f), list(c.choice, 0, api.OK))
	}
}

func TestP2_2Reference(t *testing.T) {
	most := 0
	for _, g := range someGames(40) {
		for _, choice := range allChoices(g) {
			next, e := jam.Step(g, choice)
			want := slowStep(g, choice)
			if want == nil {
				refused(t, fmt.Sprint("Step ", g, choice), api.ErrPlan, next, e)
			} else {
				results(t, fmt.Sprint("Step ", g, choice), list(next, e), list(want, api.OK))
			}
			last, steps, f := jam.Settle(g, choice)
			many := 0
			for at := want; at != nil; at = slowStep(g, at) {
				choice = at
				many++
			}
			results(t, fmt.Sprint("Settle ", g, choice), list(last, steps, f), list(choice, many, api.OK))
			most = max(most, many)
		}
	}
	if most < 4 {
		t.Error("no choice is far from settled:", most)
	}
}

func TestP2_3(t *testing.T) {
	for _, c := range []struct {
		g       api.Game
		settled [][]int
		best    []int
		total   int
	}{
		{two(), [][]int{{0, 0}, {0, 1}, {1, 0}}, []int{0, 1}, 3},
		{spread(), [][]int{{0, 0, 0}, {1, 1, 1}}, []int{0, 0, 0}, 6},
		{api.Game{Routes: [][]int{{1, 1}}, Tolls: [][]int{{0}}}, [][]int{{0}, {1}}, []int{0}, 0},
		{api.Game{Routes: [][]int{{1, 2}}, Tolls: [][]int{{1}, {0}}}, [][]int{{1}}, []int{1}, 0},
	} {
		settled, e := jam.Settled(c.g)
		best, total, f := jam.Best(c.g)
		results(t, fmt.Sprint("Settled ", c.g), list(settled, e), list(c.settled, api.OK))
		results(t, fmt.Sprint("Best ", c.g), list(best, total, f), list(c.best, c.total, api.OK))
	}
	for _, g := range someGames(200) {
		settled, e := jam.Settled(g)
		best, total, f := jam.Best(g)
		wantBest, wantTotal := slowBest(g)
		results(t, fmt.Sprint("Settled ", g), list(settled, e), list(slowSettled(g), api.OK))
		results(t, fmt.Sprint("Best ", g), list(best, total, f), list(wantBest, wantTotal, api.OK))
	}
}

func TestLaneErrors(t *testing.T) {
	for _, lanes := range [][]api.Lane{
		nil, {}, {{A: 0, B: 0}}, {{A: 0, B: -1}}, {{A: -1, B: 1}}, {{A: 11, B: 1}}, {{A: 0, B: 11}},
		{{A: 1, B: 1}, {A: 0, B: 0}}, {{A: 1, B: 1}, {A: 1, B: 1}, {A: 1, B: 1}, {A: 1, B: 11}},
		{{A: math.MaxInt, B: 1}}, {{A: math.MinInt, B: 1}}, {{A: 1, B: math.MaxInt}}, {{A: 1, B: math.MinInt}},
	} {
		refusedLanes(t, lanes, api.ErrArg)
	}
	for _, lanes := range [][]api.Lane{make([]api.Lane, 5), slices.Repeat([]api.Lane{{A: 1, B: 1}}, 5), make([]api.Lane, 1000)} {
		refusedLanes(t, lanes, api.ErrLimit)
	}
}

func TestP2_4(t *testing.T) {
	for _, c := range []struct {
		lanes    []api.Lane
		balance  api.Parts
		time     api.Ratio
		cheapest api.Parts
		delay    api.Ratio
	}{
		{[]api.Lane{{A: 0, B: 1}, {A: 1, B: 1}}, api.Parts{Nums: []int{1, 0}, Den: 1}, api.Ratio{Num: 1, Den: 1}, api.Parts{Nums: []int{3, 1}, Den: 4}, api.Ratio{Num: 7, Den: 8}},
		{[]api.Lane{{A: 0, B: 2}, {A: 1, B: 1}}, api.Parts{Nums: []int{2, 1}, Den: 3}, api.Ratio{Num: 4, Den: 3}, api.Parts{Nums: []int{1, 1}, Den: 2}, api.Ratio{Num: 5, Den: 4}},
		{[]api.Lane{{A: 10, B: 10}}, api.Parts{Nums: []int{1}, Den: 1}, api.Ratio{Num: 20, Den: 1}, api.Parts{Nums: []int{1}, Den: 1}, api.Ratio{Num: 20, Den: 1}},
		{[]api.Lane{{A: 10, B: 1}, {A: 0, B: 10}}, api.Parts{Nums: []int{0, 1}, Den: 1}, api.Ratio{Num: 10, Den: 1}, api.Parts{Nums: []int{5, 6}, Den: 11}, api.Ratio{Num: 85, Den: 11}},
		{slices.Repeat([]api.Lane{{A: 10, B: 10}}, 4), api.Parts{Nums: []int{1, 1, 1, 1}, Den: 4}, api.Ratio{Num: 25, Den: 2}, api.Parts{Nums: []int{1, 1, 1, 1}, Den: 4}, api.Ratio{Num: 25, Den: 2}},
	} {
		p, time, e := jam.Balance(c.lanes)
		q, delay, f := jam.Cheapest(c.lanes)
		results(t, fmt.Sprint("Balance ", c.lanes), list(p, time, e), list(c.balance, c.time, api.OK))
		results(t, fmt.Sprint("Cheapest ", c.lanes), list(q, delay, f), list(c.cheapest, c.delay, api.OK))
	}
	for _, lanes := range someLanes(1500) {
		p, time, e := jam.Balance(lanes)
		balanced := slowBalance(lanes)[0]
		used := slices.IndexFunc(p.Nums, func(x int) bool { return x > 0 })
		results(t, fmt.Sprint("Balance ", lanes), list(p, time, e), list(parts(balanced), ratio(times(lanes, balanced)[used]), api.OK))
		q, delay, f := jam.Cheapest(lanes)
		best := slowCheapest(lanes)
		results(t, fmt.Sprint("Cheapest ", lanes), list(q, delay, f), list(parts(best), ratio(slowDelay(lanes, best)), api.OK))
	}
}

// No parts with a small Den have a lesser delay than Cheapest.
func TestP2_4Least(t *testing.T) {
	for _, lanes := range someLanes(60) {
		_, least, _ := jam.Cheapest(lanes)
		for _, p := range allParts(len(lanes), 9) {
			if slowDelay(lanes, rats(p)).Cmp(value(least)) < 0 {
				t.Error("less than Cheapest:", lanes, p, least)
			}
		}
	}
}

func TestP2_5(t *testing.T) {
	pigou := []api.Lane{{A: 0, B: 1}, {A: 1, B: 1}}
	for _, c := range []struct {
		p        api.Parts
		delay    api.Ratio
		balanced bool
	}{
		{api.Parts{Nums: []int{1, 0}, Den: 1}, api.Ratio{Num: 1, Den: 1}, true},
		{api.Parts{Nums: []int{0, 1}, Den: 1}, api.Ratio{Num: 2, Den: 1}, false},
		{api.Parts{Nums: []int{3, 1}, Den: 4}, api.Ratio{Num: 7, Den: 8}, false},
		{api.Parts{Nums: []int{1, 1}, Den: 2}, api.Ratio{Num: 1, Den: 1}, false},
		{api.Parts{Nums: []int{9999999, 1}, Den: 10000000}, api.Ratio{Num: 49999995000001, Den: 50000000000000}, false},
		{api.Parts{Nums: []int{1, 9999999}, Den: 10000000}, api.Ratio{Num: 99999985000001, Den: 50000000000000}, false},
	} {
		delay, e := jam.Delay(pigou, c.p)
		ok, f := jam.InBalance(pigou, c.p)
		results(t, fmt.Sprint("Delay ", c.p), list(delay, e), list(c.delay, api.OK))
		results(t, fmt.Sprint("InBalance ", c.p), list(ok, f), list(c.balanced, api.OK))
	}
	great := slices.Repeat([]api.Lane{{A: 10, B: 10}}, 4)
	p := api.Parts{Nums: []int{9999997, 1, 1, 1}, Den: api.MaxPart}
	delay, e := jam.Delay(great, p)
	results(t, "Delay of great numbers", list(delay, e), list(ratio(slowDelay(great, rats(p))), api.OK))
	for _, lanes := range someLanes(60) {
		for _, p := range allParts(len(lanes), 7) {
			delay, e := jam.Delay(lanes, p)
			ok, f := jam.InBalance(lanes, p)
			results(t, fmt.Sprint("Delay ", lanes, p), list(delay, e), list(ratio(slowDelay(lanes, rats(p))), api.OK))
			results(t, fmt.Sprint("InBalance ", lanes, p), list(ok, f), list(slowInBalance(lanes, rats(p)), api.OK))
		}
	}
}

func TestP2_5NotParts(t *testing.T) {
	same := []api.Lane{{A: 1, B: 1}, {A: 1, B: 1}}
	for _, p := range []api.Parts{
		{}, {Den: 1}, {Nums: []int{}, Den: 1}, {Nums: []int{1}, Den: 1}, {Nums: []int{1, 1, 0}, Den: 2}, {Nums: []int{1, 0, 0}, Den: 1}, {Nums: make([]int, 9), Den: 1},
		{Nums: []int{1, 1}, Den: 1}, {Nums: []int{1, 1}, Den: 3}, {Nums: []int{0, 0}, Den: 1}, {Nums: []int{0, 0}, Den: 0}, {Nums: []int{1, 1}, Den: 0},
		{Nums: []int{2, 2}, Den: 4}, {Nums: []int{2, 0}, Den: 2}, {Nums: []int{5000000, 5000000}, Den: 10000000}, {Nums: []int{3, 6}, Den: 9},
		{Nums: []int{-1, 2}, Den: 1}, {Nums: []int{2, -1}, Den: 1}, {Nums: []int{-1, -1}, Den: -2}, {Nums: []int{1, 1}, Den: -2}, {Nums: []int{-1, 0}, Den: -1},
		{Nums: []int{5000000, 5000001}, Den: 10000001}, {Nums: []int{1, math.MaxInt - 1}, Den: math.MaxInt},
		{Nums: []int{math.MaxInt, math.MinInt}, Den: 1}, {Nums: []int{math.MinInt, math.MinInt}, Den: math.MinInt}, {Nums: []int{math.MinInt, math.MaxInt}, Den: math.MaxInt},
	} {
		r, e := jam.Delay(same, p)
		refused(t, fmt.Sprint("Delay ", p), api.ErrArg, r, e)
		ok, e := jam.InBalance(same, p)
		results(t, fmt.Sprint("InBalance ", p), list(ok, e), list(false, api.OK))
	}
	ok, e := jam.InBalance(same, api.Parts{Nums: []int{1, 1}, Den: 2})
	results(t, "InBalance 1/2 1/2", list(ok, e), list(true, api.OK))
	three := slices.Repeat(same[:1], 3)
	for _, p := range []api.Parts{{Nums: []int{-1, 1, 1}, Den: 1}, {Nums: []int{1, -1, 1}, Den: 1}, {Nums: []int{-1, 2, 1}, Den: 2}, {Nums: []int{2, 2, 2}, Den: 6}} {
		r, e := jam.Delay(three, p)
		refused(t, fmt.Sprint("Delay ", p), api.ErrArg, r, e)
		ok, e := jam.InBalance(three, p)
		results(t, fmt.Sprint("InBalance ", p), list(ok, e), list(false, api.OK))
	}
}

// Rule 4: no argument is changed, and results are new memory.
func TestMemoryOfGames(t *testing.T) {
	g, choice := two(), []int{1, 1}
	for range 2 {
		costs, _, _ := jam.Costs(g, choice)
		results(t, "Costs", list(costs), list([]int{2, 2}))
		jam.Potential(g, choice)
		next, _ := jam.Step(g, choice)
		results(t, "Step", list(next), list([]int{0, 1}))
		last, _, _ := jam.Settle(g, choice)
		results(t, "Settle", list(last), list([]int{0, 1}))
		still := []int{0, 1}
		stay, _, _ := jam.Settle(g, still)
		results(t, "Settle of a settled choice", list(stay), list([]int{0, 1}))
		best, _, _ := jam.Best(g)
		results(t, "Best", list(best), list([]int{0, 1}))
		settled, _ := jam.Settled(g)
		results(t, "Settled", list(settled), list([][]int{{0, 0}, {0, 1}, {1, 0}}))
		for _, l := range slices.Concat([][]int{costs, next, last, stay, best}, settled) {
			for i := range l[:cap(l)] {
				l[:cap(l)][i] = 9
			}
		}
		results(t, "the settled choice", list(still), list([]int{0, 1}))
		results(t, "the game and the choice", list(g, choice), list(two(), []int{1, 1}))
	}
	settled, _ := jam.Settled(g)
	for i := range settled[0][:cap(settled[0])] {
		settled[0][:cap(settled[0])][i] = 9
	}
	results(t, "Settled beside a changed choice", list(settled[1:]), list([][]int{{0, 1}, {1, 0}}))
}

func TestMemoryOfStreams(t *testing.T) {
	fresh := func() []api.Lane { return []api.Lane{{A: 9, B: 9}, {A: 0, B: 10}, {A: 10, B: 1}} }
	lanes, p := fresh(), api.Parts{Nums: []int{1, 8, 1}, Den: 10}
	balance, _, _ := jam.Balance(lanes)
	cheapest, _, _ := jam.Cheapest(lanes)
	want := list(api.Parts{Nums: slices.Clone(balance.Nums), Den: balance.Den}, api.Parts{Nums: slices.Clone(cheapest.Nums), Den: cheapest.Den})
	clear(balance.Nums)
	clear(cheapest.Nums)
	jam.Delay(lanes, p)
	jam.InBalance(lanes, p)
	balance, _, _ = jam.Balance(lanes)
	cheapest, _, _ = jam.Cheapest(lanes)
	results(t, "Balance and Cheapest, again", list(balance, cheapest), want)
	results(t, "the lanes and the parts", list(lanes, p), list(fresh(), api.Parts{Nums: []int{1, 8, 1}, Den: 10}))
}
