package stand

import (
	"slices"

	"trishaw/api"
	"trishaw/fetch"
	"trishaw/jam"
	"trishaw/share"
	"trishaw/turn"
)

// The commands of this file have in their parameters all that they need.

func jammed(c jamming) string {
	var lanes []api.Lane
	for two := range slices.Chunk(c.lanes, 2) {
		lanes = append(lanes, api.Lane{A: two[0], B: two[1]})
	}
	list, time, e := jam.Balance(lanes)
	refuse(e)
	return with(parts(list), fraction(time.Num, time.Den))
}

func parted(c parting) string {
	half := len(c.points) / 2
	list, score, e := share.Winner(cut(c.points[:half]), c.points[half:])
	refuse(e)
	return with(parts(list), fraction(score.Num, score.Den))
}

func round(c rounding) string {
	days, e := turn.Round(c.shares)
	refuse(e)
	return numbers(days...)
}

func mend(c mending) string {
	streets := make([]api.Pair, len(c.streets))
	for i, word := range c.streets {
		refuseIf(len(word) != 2 || !isCorner(word[0]) || !isCorner(word[1]), api.ErrForm)
		streets[i] = api.Pair{A: int(word[0] - '0'), B: int(word[1] - '0')}
	}
	list, e := fetch.Mend(corners, streets)
	refuse(e)
	return numbers(list...)
}

func isCorner(digit byte) bool { return digit >= '0' && digit < '0'+corners }
