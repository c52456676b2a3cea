package jam_test

import (
	"math/big"
	"math/rand"
	"slices"

	"trishaw/api"
)

// What the chapter defines, written down once more: games by trying everything, streams with rational numbers.

// count returns how many drivers use a street.
func count(g api.Game, choice []int, street int) int {
	n := 0
	for i, route := range choice {
		if g.Routes[i][route]&(1<<street) != 0 {
			n++
		}
	}
	return n
}

func slowCost(g api.Game, choice []int, i int) int {
	sum := 0
	for s, tolls := range g.Tolls {
		if g.Routes[i][choice[i]]&(1<<s) != 0 {
			sum += tolls[count(g, choice, s)-1]
		}
	}
	return sum
}

func slowCosts(g api.Game, choice []int) ([]int, int) {
	costs, sum := []int{}, 0
	for i := range choice {
		costs = append(costs, slowCost(g, choice, i))
		sum += costs[i]
	}
	return costs, sum
}

func slowPotential(g api.Game, choice []int) int {
	sum := 0
	for s, tolls := range g.Tolls {
		for _, toll := range tolls[:count(g, choice, s)] {
			sum += toll
		}
	}
	return sum
}

func with(choice []int, i, route int) []int {
	other := slices.Clone(choice)
	other[i] = route
	return other
}

// slowStep returns nil for a settled choice.
func slowStep(g api.Game, choice []int) []int {
	for i := range choice {
		costs := []int{}
		for route := range g.Routes[i] {
			costs = append(costs, slowCost(g, with(choice, i, route), i))
		}
		if least := slices.Min(costs); least < costs[choice[i]] {
			return with(choice, i, slices.Index(costs, least))
		}
	}
	return nil
}

// allChoices returns all choices in lexicographic order.
func allChoices(g api.Game) [][]int {
	all := [][]int{nil}
	for _, routes := range g.Routes {
		var longer [][]int
		for _, choice := range all {
			for route := range routes {
				longer = append(longer, append(slices.Clone(choice), route))
			}
		}
		all = longer
	}
	return all
}

func slowSettled(g api.Game) [][]int {
	var settled [][]int
	for _, choice := range allChoices(g) {
		if slowStep(g, choice) == nil {
			settled = append(settled, choice)
		}
	}
	return settled
}

func slowBest(g api.Game) ([]int, int) {
	var best []int
	least := 0
	for _, choice := range allChoices(g) {
		if _, sum := slowCosts(g, choice); best == nil || sum < least {
			best, least = choice, sum
		}
	}
	return best, least
}

// randomGame returns a game with tolls up to most, which may grow, fall or neither.
func randomGame(r *rand.Rand, drivers, roads, routes, most int) api.Game {
	g := api.Game{Routes: make([][]int, 1+r.Intn(drivers)), Tolls: make([][]int, 1+r.Intn(roads))}
	for i := range g.Routes {
		for range 1 + r.Intn(routes) {
			g.Routes[i] = append(g.Routes[i], 1+r.Intn(1<<len(g.Tolls)-1))
		}
	}
	for s := range g.Tolls {
		for range g.Routes {
			g.Tolls[s] = append(g.Tolls[s], r.Intn(most+1))
		}
		if r.Intn(2) == 0 {
			slices.Sort(g.Tolls[s])
		}
	}
	return g
}

// someGames returns games of all kinds, the same ones each time.
func someGames(many int) []api.Game {
	r := rand.New(rand.NewSource(1))
	games := []api.Game{two(), braess(), spread(), fullGame()}
	for i := range many {
		games = append(games, randomGame(r, 3, 4, 3, []int{0, 1, 2, 5, api.MaxToll}[i%5]))
		games = append(games, randomGame(r, 4, api.MaxRoads, 4, []int{3, 30, api.MaxToll}[i%3]))
	}
	return games
}

func two() api.Game {
	return api.Game{Routes: [][]int{{1, 2}, {1, 2}}, Tolls: [][]int{{1, 2}, {2, 2}}}
}

// braess is two ways of two streets each, and one that crosses over at no cost.
func braess() api.Game {
	return api.Game{Routes: [][]int{{3, 12, 25}, {3, 12, 25}}, Tolls: [][]int{{1, 2}, {2, 2}, {2, 2}, {1, 2}, {0, 0}}}
}

// spread is the game that costs just 5/2 as much as need be when all drivers take their second routes, and is settled then.
func spread() api.Game {
	return api.Game{
		Routes: [][]int{{0b001001, 0b010110}, {0b010010, 0b100101}, {0b100100, 0b001011}},
		Tolls:  slices.Repeat([][]int{{1, 2, 3}}, 6),
	}
}

// fullGame is as large as a game may be.
func fullGame() api.Game {
	return api.Game{
		Routes: slices.Repeat([][]int{{255, 15, 240, 51, 204}}, api.MaxPlayers),
		Tolls:  slices.Repeat([][]int{{0, 1, 10, 100, api.MaxToll}}, api.MaxRoads),
	}
}

func rat(a, b int) *big.Rat { return big.NewRat(int64(a), int64(b)) }

func ratio(x *big.Rat) api.Ratio {
	return api.Ratio{Num: int(x.Num().Int64()), Den: int(x.Denom().Int64())}
}

func value(r api.Ratio) *big.Rat { return rat(r.Num, r.Den) }

// parts brings numbers that sum to 1 to one denominator.
func parts(list []*big.Rat) api.Parts {
	den := big.NewInt(1)
	for _, x := range list {
		common := new(big.Int).GCD(nil, nil, den, x.Denom())
		den.Mul(den, common.Div(x.Denom(), common))
	}
	p := api.Parts{Den: int(den.Int64())}
	for _, x := range list {
		whole := new(big.Rat).Mul(x, new(big.Rat).SetInt(den))
		p.Nums = append(p.Nums, int(whole.Num().Int64()))
	}
	return p
}

func rats(p api.Parts) []*big.Rat {
	var list []*big.Rat
	for _, x := range p.Nums {
		list = append(list, rat(x, p.Den))
	}
	return list
}

// times returns the time of each lane.
func times(lanes []api.Lane, list []*big.Rat) []*big.Rat {
	var all []*big.Rat
	for i, l := range lanes {
		time := new(big.Rat).Mul(rat(l.B, 1), list[i])
		all = append(all, time.Add(time, rat(l.A, 1)))
	}
	return all
}

func slowDelay(lanes []api.Lane, list []*big.Rat) *big.Rat {
	sum := new(big.Rat)
	for i, time := range times(lanes, list) {
		sum.Add(sum, time.Mul(time, list[i]))
	}
	return sum
}

func slowInBalance(lanes []api.Lane, list []*big.Rat) bool {
	all := times(lanes, list)
	for i, x := range list {
		for j := range list {
			if order := all[j].Cmp(all[i]); x.Sign() > 0 && (order < 0 || list[j].Sign() > 0 && order != 0) {
				return false
			}
		}
	}
	return true
}

// levelled returns the parts on the lanes of a set for which A + slope B x is the same on all of them; nil if one is not above 0.
func levelled(lanes []api.Lane, set, slope int) []*big.Rat {
	each, sum := new(big.Rat), rat(1, 1)
	for i, l := range lanes {
		if set>>i&1 == 1 {
			each.Add(each, rat(1, slope*l.B))
			sum.Add(sum, rat(l.A, slope*l.B))
		}
	}
	level := sum.Quo(sum, each)
	list := make([]*big.Rat, len(lanes))
	for i, l := range lanes {
		list[i] = new(big.Rat)
		if set>>i&1 == 0 {
			continue
		}
		list[i].Sub(level, rat(l.A, 1)).Quo(list[i], rat(slope*l.B, 1))
		if list[i].Sign() <= 0 {
			return nil
		}
	}
	return list
}

// slowBalance returns all parts in balance.
func slowBalance(lanes []api.Lane) [][]*big.Rat {
	var all [][]*big.Rat
	for set := 1; set < 1<<len(lanes); set++ {
		if list := levelled(lanes, set, 1); list != nil && slowInBalance(lanes, list) {
			all = append(all, list)
		}
	}
	return all
}

// slowCheapest returns the parts with the least delay. Where the lanes that they use are known, A + 2 B x is the same on them.
func slowCheapest(lanes []api.Lane) []*big.Rat {
	var best []*big.Rat
	for set := 1; set < 1<<len(lanes); set++ {
		list := levelled(lanes, set, 2)
		if list != nil && (best == nil || slowDelay(lanes, list).Cmp(slowDelay(lanes, best)) < 0) {
			best = list
		}
	}
	return best
}

func randomLanes(r *rand.Rand, many int) []api.Lane {
	lanes := make([]api.Lane, many)
	for i := range lanes {
		lanes[i] = api.Lane{A: r.Intn(api.MaxRate + 1), B: 1 + r.Intn(api.MaxRate)}
	}
	return lanes
}

// someLanes returns lanes of all kinds, the same ones each time.
func someLanes(many int) [][]api.Lane {
	r := rand.New(rand.NewSource(2))
	all := [][]api.Lane{
		{{A: 0, B: 1}}, {{A: 10, B: 10}}, {{A: 0, B: 1}, {A: 1, B: 1}}, {{A: 0, B: 2}, {A: 1, B: 1}},
		{{A: 1, B: 1}, {A: 0, B: 1}}, {{A: 0, B: 10}, {A: 10, B: 1}}, {{A: 3, B: 4}, {A: 3, B: 4}, {A: 3, B: 4}, {A: 3, B: 4}},
		{{A: 0, B: 7}, {A: 1, B: 8}, {A: 2, B: 9}, {A: 3, B: 5}}, {{A: 0, B: 10}, {A: 0, B: 9}, {A: 0, B: 8}, {A: 0, B: 7}},
		{{A: 9, B: 9}, {A: 0, B: 1}, {A: 9, B: 1}},
	}
	for i := range many {
		all = append(all, randomLanes(r, 1+i%api.MaxLanes))
	}
	return all
}

// allParts returns all parts on many lanes with a Den of at most den.
func allParts(many, den int) []api.Parts {
	seen := map[string]bool{}
	var all []api.Parts
	var add func(nums []int, left, den int)
	add = func(nums []int, left, den int) {
		if len(nums) == many-1 {
			list := rats(api.Parts{Nums: append(slices.Clone(nums), left), Den: den})
			if p := parts(list); !seen[key(p)] {
				seen[key(p)] = true
				all = append(all, p)
			}
			return
		}
		for x := range left + 1 {
			add(append(slices.Clone(nums), x), left-x, den)
		}
	}
	for d := 1; d <= den; d++ {
		add(nil, d, d)
	}
	return all
}
