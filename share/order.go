package share

import (
	"cmp"
	"slices"
)

// ranked is a thing with its order.
type ranked[T, O any] struct {
	thing T
	order O
}

// rank pairs each thing with its order.
func rank[T, O any](things []T, order func(T) O) []ranked[T, O] {
	list := make([]ranked[T, O], len(things))
	for i, x := range things {
		list[i] = ranked[T, O]{x, order(x)}
	}
	return list
}

// sorted returns the things as their orders compare; those of equal order stay as they were.
func sorted[T, O any](things []T, order func(T) O, compare func(O, O) int) []T {
	list := rank(things, order)
	slices.SortStableFunc(list, func(x, y ranked[T, O]) int { return compare(x.order, y.order) })
	found := make([]T, len(list))
	for i, x := range list {
		found[i] = x.thing
	}
	return found
}

// greatest returns the thing with the greatest order, of several the first.
func greatest[T any, O cmp.Ordered](things []T, order func(T) O) ranked[T, O] {
	// MaxFunc promises the first of several.
	return slices.MaxFunc(rank(things, order), func(x, y ranked[T, O]) int { return cmp.Compare(x.order, y.order) })
}

// indices returns the numbers from 0 to n - 1.
func indices(n int) []int {
	list := make([]int, n)
	for i := range list {
		list[i] = i
	}
	return list
}

func sum(list []int) int {
	total := 0
	for _, x := range list {
		total += x
	}
	return total
}
