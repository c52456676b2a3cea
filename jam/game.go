package jam

import (
	"slices"

	"trishaw/api"
)

// game is the routes of each driver, and the roads over which they lead.
type game struct {
	routes [][]int
	roads  []road
}

func newGame(g api.Game) game { return game{g.Routes, streets(g.Tolls)} }

// enter puts many users more on each road of a route.
func enter(users []int, route, many int) {
	for i := range users {
		if route>>i&1 == 1 {
			users[i] += many
		}
	}
}

// users returns how many drivers use each road.
func (g game) users(choice []int) []int {
	users := make([]int, len(g.roads))
	for i, route := range choice {
		enter(users, g.routes[i][route], 1)
	}
	return users
}

// others returns how many drivers use each road beside driver i.
func (g game) others(choice []int, i int) []int {
	users := g.users(choice)
	enter(users, g.routes[i][choice[i]], -1)
	return users
}

// cost returns what one driver more would pay for a route.
func (g game) cost(route int, others []int) int {
	sum := 0
	for i, r := range g.roads {
		if route>>i&1 == 1 {
			sum += r.pays(others[i] + 1)
		}
	}
	return sum
}

// better returns the route by which driver i gains most, of several the first; the route that the driver has if none is a gain.
func (g game) better(choice []int, i int) int {
	others := g.others(choice, i)
	best := choice[i]
	least := g.cost(g.routes[i][best], others)
	for route, roads := range g.routes[i] {
		if c := g.cost(roads, others); c < least {
			best, least = route, c
		}
	}
	return best
}

// step returns the choice after the first driver who gains has changed over; false if the choice is settled.
func (g game) step(choice []int) ([]int, bool) {
	for i, route := range choice {
		if best := g.better(choice, i); best != route {
			next := slices.Clone(choice)
			next[i] = best
			return next, true
		}
	}
	return nil, false
}

// choices yields all choices in lexicographic order, each in the same memory.
func (g game) choices(yield func([]int) bool) {
	choice := make([]int, len(g.routes))
	for yield(choice) {
		i := len(choice) - 1
		for i >= 0 && choice[i] == len(g.routes[i])-1 {
			choice[i] = 0
			i--
		}
		if i < 0 {
			return
		}
		choice[i]++
	}
}
