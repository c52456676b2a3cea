// Package ratio brings the numbers of all layers to lowest terms.
package ratio

import (
	"trishaw/api"
)

// Divisor returns the greatest common divisor of numbers from 0 on; 0 if there is none above 0.
func Divisor(list ...int) int {
	common := 0
	for _, x := range list {
		for x != 0 {
			common, x = x, common%x
		}
	}
	return common
}

// Lowest returns num / den in lowest terms, for num from 0 on and den above 0.
func Lowest(num, den int) api.Ratio {
	d := Divisor(num, den)
	return api.Ratio{Num: num / d, Den: den / d}
}
