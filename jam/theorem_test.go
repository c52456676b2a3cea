package jam_test

import (
	"fmt"
	"math/big"
	"math/rand"
	"slices"
	"testing"

	"trishaw/api"
	"trishaw/jam"
)

func costs(t *testing.T, g api.Game, choice []int) ([]int, int) {
	t.Helper()
	list, sum, e := jam.Costs(g, choice)
	if e != api.OK {
		t.Fatal("Costs", g, choice, e)
	}
	return list, sum
}

func potential(t *testing.T, g api.Game, choice []int) int {
	t.Helper()
	n, e := jam.Potential(g, choice)
	if e != api.OK {
		t.Fatal("Potential", g, choice, e)
	}
	return n
}

func settled(t *testing.T, g api.Game) [][]int {
	t.Helper()
	list, e := jam.Settled(g)
	if e != api.OK || len(list) == 0 {
		t.Fatal("Settled", g, list, e)
	}
	return list
}

func contains(list [][]int, choice []int) bool {
	return slices.ContainsFunc(list, func(x []int) bool { return slices.Equal(x, choice) })
}

// If one driver takes another route, cost and potential change alike.
func TestP2_6Change(t *testing.T) {
	for _, g := range someGames(20) {
		for _, choice := range allChoices(g) {
			before, _ := costs(t, g, choice)
			level := potential(t, g, choice)
			for i := range choice {
				for route := range g.Routes[i] {
					other := with(choice, i, route)
					after, _ := costs(t, g, other)
					if a, b := after[i]-before[i], potential(t, g, other)-level; a != b {
						t.Fatal("cost and potential change by", a, b, "for driver", i, g, choice, other)
					}
				}
			}
		}
	}
}

func TestP2_6Settle(t *testing.T) {
	for _, g := range someGames(60) {
		all := settled(t, g)
		least, low := 0, [][]int(nil)
		for _, choice := range allChoices(g) {
			last, steps, e := jam.Settle(g, choice)
			if e != api.OK || !contains(all, last) || (steps == 0) != contains(all, choice) {
				t.Fatal("Settle", g, choice, last, steps, e)
			}
			n := potential(t, g, choice)
			if low == nil || n < least {
				least, low = n, nil
			}
			if n == least {
				low = append(low, choice)
			}
		}
		for _, choice := range low {
			if !contains(all, choice) {
				t.Error("the least potential is not settled:", g, choice)
			}
		}
	}
}

// straight returns a game with tolls a + b k.
func straight(r *rand.Rand) api.Game {
	g := randomGame(r, 4, 6, 3, 0)
	for s := range g.Tolls {
		a, b := r.Intn(5)*r.Intn(2), r.Intn(5)
		for k := range g.Tolls[s] {
			g.Tolls[s][k] = a + b*(k+1)
		}
	}
	return g
}

func TestP2_7(t *testing.T) {
	r := rand.New(rand.NewSource(3))
	games := []api.Game{two(), braess(), spread()}
	for range 1500 {
		games = append(games, straight(r))
	}
	for _, g := range games {
		_, best, e := jam.Best(g)
		for _, choice := range settled(t, g) {
			if _, sum := costs(t, g, choice); 2*sum > 5*best || e != api.OK {
				t.Error("more than 5/2:", g, choice, sum, best)
			}
		}
	}
	_, best, _ := jam.Best(spread())
	_, sum := costs(t, spread(), []int{1, 1, 1})
	results(t, "the game that reaches 5/2", list(best, sum, contains(settled(t, spread()), []int{1, 1, 1})), list(6, 15, true))
}

func balance(t *testing.T, lanes []api.Lane) (api.Parts, *big.Rat) {
	t.Helper()
	p, time, e := jam.Balance(lanes)
	if e != api.OK {
		t.Fatal("Balance", lanes, e)
	}
	return p, value(time)
}

func cheapest(t *testing.T, lanes []api.Lane) (api.Parts, *big.Rat) {
	t.Helper()
	p, delay, e := jam.Cheapest(lanes)
	if e != api.OK {
		t.Fatal("Cheapest", lanes, e)
	}
	return p, value(delay)
}

// pairs returns all lanes of two, the first no slower than the second at the start.
func pairs() [][]api.Lane {
	var all [][]api.Lane
	for code := range 11 * 11 * 10 * 10 {
		a, b := api.Lane{A: code % 11, B: 1 + code/121%10}, api.Lane{A: code / 11 % 11, B: 1 + code/1210}
		if a.A <= b.A {
			all = append(all, []api.Lane{a, b})
		}
	}
	return all
}

func TestP2_8(t *testing.T) {
	near := rat(5, 4)
	reached := false
	for _, lanes := range slices.Concat(pairs(), someLanes(1500)) {
		p, time := balance(t, lanes)
		ok, e := jam.InBalance(lanes, p)
		results(t, fmt.Sprint("InBalance of Balance ", lanes), list(ok, e), list(true, api.OK))
		delay, e := jam.Delay(lanes, p)
		results(t, fmt.Sprint("Delay of Balance ", lanes), list(delay, e), list(ratio(time), api.OK))
		_, least := cheapest(t, lanes)
		most := new(big.Rat).Mul(rat(4, 3), least)
		if time.Cmp(least) < 0 || time.Cmp(most) > 0 {
			t.Error("Balance is out of its bounds:", lanes, time, least)
		}
		reached = reached || time.Cmp(new(big.Rat).Mul(near, least)) > 0
	}
	if !reached {
		t.Error("no lanes come near 4/3")
	}
}

func TestP2_8Only(t *testing.T) {
	for _, lanes := range someLanes(80) {
		p, _ := balance(t, lanes)
		for _, q := range allParts(len(lanes), 8) {
			ok, e := jam.InBalance(lanes, q)
			results(t, fmt.Sprint("InBalance ", lanes, q), list(ok, e), list(key(p) == key(q), api.OK))
		}
	}
	for _, lanes := range someLanes(300) {
		results(t, fmt.Sprint("parts in balance ", lanes), list(len(slowBalance(lanes))), list(1))
	}
}

func TestP2_9(t *testing.T) {
	r := rand.New(rand.NewSource(4))
	for i := range 1500 {
		lanes := randomLanes(r, 1+i%api.MaxLanes)
		twice := slices.Clone(lanes)
		for k := range lanes {
			lanes[k].B = (lanes[k].B + 1) / 2
			twice[k].B = 2 * lanes[k].B
		}
		p, _ := cheapest(t, lanes)
		q, _ := balance(t, twice)
		results(t, fmt.Sprint("Cheapest of ", lanes), list(p), list(q))
	}
}

func TestP2_10(t *testing.T) {
	r := rand.New(rand.NewSource(5))
	for i := range 3000 {
		lanes := randomLanes(r, 1+i%(api.MaxLanes-1))
		more := slices.Insert(slices.Clone(lanes), r.Intn(len(lanes)+1), randomLanes(r, 1)...)
		_, time := balance(t, lanes)
		_, less := balance(t, more)
		_, delay := cheapest(t, lanes)
		_, least := cheapest(t, more)
		if less.Cmp(time) > 0 || least.Cmp(delay) > 0 {
			t.Error("another lane makes it slower:", lanes, more, time, less, delay, least)
		}
	}
}

func TestP2_11(t *testing.T) {
	r := rand.New(rand.NewSource(6))
	for i := range 400 {
		g := randomGame(r, api.MaxPlayers, api.MaxRoads, 3, []int{2, 9, api.MaxToll}[i%3])
		for k := range g.Routes {
			g.Routes[k] = g.Routes[0]
		}
		all := settled(t, g)
		for _, choice := range all {
			for range 3 {
				order := slices.Clone(choice)
				r.Shuffle(len(order), func(a, b int) { order[a], order[b] = order[b], order[a] })
				_, e := jam.Step(g, order)
				results(t, fmt.Sprint("an order of a settled choice ", g, choice, order), list(e, contains(all, order)), list(api.ErrPlan, true))
			}
		}
	}
}

// odd returns an int that is often at or beyond a limit.
func odd(r *rand.Rand) int {
	some := []int{-1 << 63, -2, -1, 0, 1, 2, 3, 4, 5, 9, 10, 11, 255, 256, 1000, 1001, 10000000, 10000001, 1<<63 - 1}
	return some[r.Intn(len(some))]
}

func oddList(r *rand.Rand, most int) []int {
	list := make([]int, r.Intn(most+1))
	for i := range list {
		list[i] = odd(r)
		if r.Intn(4) > 0 {
			list[i] = r.Intn(3)
		}
	}
	return list
}

func oddLists(r *rand.Rand, most int) [][]int {
	lists := make([][]int, r.Intn(most+1))
	length := 1 + r.Intn(4)
	for i := range lists {
		lists[i] = oddList(r, length)
		if r.Intn(4) > 0 {
			lists[i] = slices.Repeat([]int{1}, length)
		}
	}
	return lists
}

// P1 and P2: whatever the arguments are, each call ends, changes none of them, and returns the same once more; an error comes alone.
func TestAnyArguments(t *testing.T) {
	r := rand.New(rand.NewSource(7))
	for range 20000 {
		g := api.Game{Routes: oddLists(r, 6), Tolls: oddLists(r, 9)}
		choice := oddList(r, 6)
		lanes := make([]api.Lane, r.Intn(6))
		for i := range lanes {
			lanes[i] = api.Lane{A: r.Intn(3), B: 1 + r.Intn(3)}
			if r.Intn(6) == 0 {
				lanes[i] = api.Lane{A: odd(r), B: odd(r)}
			}
		}
		p := api.Parts{Nums: oddList(r, 5), Den: odd(r)}
		before := key(list(g, choice, lanes, p))
		first := callAll(t, g, choice, lanes, p)
		second := callAll(t, g, choice, lanes, p)
		if first != second || before != key(list(g, choice, lanes, p)) {
			t.Fatal("not the same again:", before, first, second)
		}
	}
}

func callAll(t *testing.T, g api.Game, choice []int, lanes []api.Lane, p api.Parts) string {
	t.Helper()
	c1, n1, e1 := jam.Costs(g, choice)
	n2, e2 := jam.Potential(g, choice)
	c3, e3 := jam.Step(g, choice)
	c4, n4, e4 := jam.Settle(g, choice)
	c5, e5 := jam.Settled(g)
	c6, n6, e6 := jam.Best(g)
	p7, r7, e7 := jam.Balance(lanes)
	p8, r8, e8 := jam.Cheapest(lanes)
	r9, e9 := jam.Delay(lanes, p)
	b10, e10 := jam.InBalance(lanes, p)
	calls := [][]any{{c1, n1, e1}, {n2, e2}, {c3, e3}, {c4, n4, e4}, {c5, e5}, {c6, n6, e6}, {p7, r7, e7}, {p8, r8, e8}, {r9, e9}, {b10, e10}}
	for i, call := range calls {
		if e := call[len(call)-1]; e != api.OK {
			refused(t, fmt.Sprint("call ", i), e.(api.Errno), call...)
		}
	}
	return key(calls)
}
