package jam

import (
	"trishaw/api"
)

// road is what users share, and each of them pays for: a street, used by drivers, or a lane, used by the pieces of a stream.
type road interface {
	// pays returns what each user pays if that many, one at least, use the road.
	pays(users int) int
}

// street is used by drivers.
type street struct{ toll func(drivers int) int }

func (s street) pays(users int) int { return s.toll(users) }

// lane is used by pieces of a stream, which is cut into that many. They pay the time, times the pieces to stay whole; a lane without users tells what the first ones would pay.
type lane struct {
	api.Lane
	pieces int
}

func (l lane) pays(users int) int { return l.A*l.pieces + l.B*users }

// streets returns the streets with these tolls.
func streets(tolls [][]int) []road {
	roads := make([]road, len(tolls))
	for i, list := range tolls {
		roads[i] = street{toll: func(drivers int) int { return list[drivers-1] }}
	}
	return roads
}

// parallel returns the lanes for a stream in that many pieces.
func parallel(lanes []api.Lane, pieces int) []road {
	roads := make([]road, len(lanes))
	for i, l := range lanes {
		roads[i] = lane{l, pieces}
	}
	return roads
}

// total returns what all users pay together, with users[i] on road i.
func total(roads []road, users []int) int {
	sum := 0
	for i, many := range users {
		if many > 0 {
			sum += many * roads[i].pays(many)
		}
	}
	return sum
}

// potential returns what all users pay if they come one after another, and nobody pays for those who come later.
func potential(roads []road, users []int) int {
	sum := 0
	for i, many := range users {
		for k := 1; k <= many; k++ {
			sum += roads[i].pays(k)
		}
	}
	return sum
}
