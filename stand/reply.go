package stand

import (
	"strconv"
	"strings"

	"trishaw/api"
	"trishaw/ratio"
)

// listed returns the texts of a list's elements with blanks between, or a dash if there are none.
func listed[T any](list []T, text func(T) string) string {
	if len(list) == 0 {
		return "-"
	}
	texts := make([]string, len(list))
	for i, x := range list {
		texts[i] = text(x)
	}
	return strings.Join(texts, " ")
}

func numbers(list ...int) string { return listed(list, strconv.Itoa) }

// with returns a list with what it comes to.
func with(list, sum string) string { return list + " / " + sum }

// fraction returns num / den in lowest terms, without a denominator of 1.
func fraction(num, den int) string {
	r := ratio.Lowest(num, den)
	if r.Den == 1 {
		return strconv.Itoa(r.Num)
	}
	return strconv.Itoa(r.Num) + "/" + strconv.Itoa(r.Den)
}

func parts(p api.Parts) string {
	return listed(p.Nums, func(num int) string { return fraction(num, p.Den) })
}

// report returns what an audit found.
func report(found api.Audit) string {
	grade := "bad "
	if found.Good {
		grade = "good "
	}
	return grade + numbers(found.Commands, found.Drivers, found.Days, found.Ways, found.Rides, found.Values, found.Earned)
}
