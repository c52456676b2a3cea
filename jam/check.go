package jam

import (
	"trishaw/api"
	"trishaw/ratio"
)

// checkGame returns the error of a game, or OK.
func checkGame(g api.Game) api.Errno {
	drivers, streets := len(g.Routes), len(g.Tolls)
	if drivers < 1 || drivers > api.MaxPlayers || streets < 1 || streets > api.MaxRoads {
		return api.ErrArg
	}
	for _, list := range g.Routes {
		if len(list) < 1 || len(list) > api.MaxRoutes || !within(list, 1, 1<<streets-1) {
			return api.ErrArg
		}
	}
	for _, list := range g.Tolls {
		if len(list) != drivers || !within(list, 0, api.MaxToll) {
			return api.ErrArg
		}
	}
	return api.OK
}

// within reports whether all numbers of a list are from least to most.
func within(list []int, least, most int) bool {
	for _, x := range list {
		if x < least || x > most {
			return false
		}
	}
	return true
}

// checkChoice returns the error of a game, then that of a choice.
func checkChoice(g api.Game, choice []int) api.Errno {
	if e := checkGame(g); e != api.OK {
		return e
	}
	if len(choice) != len(g.Routes) {
		return api.ErrArg
	}
	for i, route := range choice {
		if route < 0 || route >= len(g.Routes[i]) {
			return api.ErrArg
		}
	}
	return api.OK
}

// checkLanes returns the error of lanes, or OK.
func checkLanes(lanes []api.Lane) api.Errno {
	if len(lanes) > api.MaxLanes {
		return api.ErrLimit
	}
	if len(lanes) == 0 {
		return api.ErrArg
	}
	for _, l := range lanes {
		if l.A < 0 || l.A > api.MaxRate || l.B < 1 || l.B > api.MaxRate {
			return api.ErrArg
		}
	}
	return api.OK
}

// areParts reports whether parts are those of a stream on many lanes.
func areParts(parts api.Parts, many int) bool {
	if !ratio.AreParts(parts, many, 0, 1) {
		return false
	}
	sum := 0
	for _, x := range parts.Nums {
		sum += x
	}
	return sum == parts.Den
}
