package branch

import (
	"slices"

	"trishaw/api"
)

// town is the number of corners, and the streets from each of them to each other one.
type town struct {
	n       int
	between map[api.Pair][]int
}

// sorted returns the town with these streets.
func sorted(n int, ways []api.Way) town {
	t := town{n, map[api.Pair][]int{}}
	for i, w := range ways {
		p := api.Pair{A: w.A, B: w.B}
		t.between[p] = append(t.between[p], i)
	}
	return t
}

// many returns how many streets lead from one corner to another.
func (t town) many(a, b int) int { return len(t.between[api.Pair{A: a, B: b}]) }

// pairs yields two corners each, the first one outside a set and the second one in it.
func (t town) pairs(set int) func(func(a, b int) bool) {
	return func(yield func(a, b int) bool) {
		for a := range t.n {
			for b := range t.n {
				if set>>a&1 == 0 && set>>b&1 == 1 && !yield(a, b) {
					return
				}
			}
		}
	}
}

// width returns how many streets enter a set.
func (t town) width(set int) int {
	sum := 0
	for a, b := range t.pairs(set) {
		sum += t.many(a, b)
	}
	return sum
}

// narrow returns the least width of any set, and the least set that has it.
func (t town) narrow() (width, set int) {
	set = 2
	width = t.width(set)
	for other := 4; other < 1<<t.n; other += 2 {
		if w := t.width(other); w < width {
			width, set = w, other
		}
	}
	return width, set
}

// take takes a street from a to b out of the town, and returns it.
func (t town) take(a, b int) int {
	p := api.Pair{A: a, B: b}
	street := t.between[p][0]
	t.between[p] = t.between[p][1:]
	return street
}

// spare reports whether there is a street from a to b, without which no set is narrower than width.
func (t town) spare(a, b, width int) bool {
	if t.many(a, b) == 0 {
		return false
	}
	for set := 2; set < 1<<t.n; set += 2 {
		if enters(api.Way{A: a, B: b}, set) && t.width(set) <= width {
			return false
		}
	}
	return true
}

// grow takes a branching out of a town in which no set is narrower than width + 1, such that none is narrower than width then.
func (t town) grow(width int) []int {
	var list []int
	missing := 1<<t.n - 2
	for missing != 0 {
		// There always is a street that can be spared (Lovász).
		for a, b := range t.pairs(missing) {
			if t.spare(a, b, width) {
				list = append(list, t.take(a, b))
				missing &^= 1 << b
				break
			}
		}
	}
	slices.Sort(list)
	return list
}

// apart takes as many branchings out of the town as there are, and returns them in lexicographic order.
func (t town) apart() [][]int {
	var all [][]int
	for width, _ := t.narrow(); width > 0; width-- {
		all = append(all, t.grow(width-1))
	}
	slices.SortFunc(all, slices.Compare)
	return all
}

// table returns the table whose determinant is the number of branchings (Tutte).
func (t town) table() [][]int {
	rows := make([][]int, t.n-1)
	for i := range rows {
		rows[i] = make([]int, t.n-1)
		for j := range rows[i] {
			rows[i][j] = -t.many(i+1, j+1)
		}
		rows[i][i] = t.width(1 << (i + 1))
	}
	return rows
}

// count returns the number of branchings.
func (t town) count() int {
	rows := t.table()
	// By Bareiss all divisions are exact, and after k rows the number is that of a town in which the corners beyond k are one with the stand. If this has no branching, the whole town has none.
	number := 1
	for k := range rows {
		next := rows[k][k]
		if next == 0 {
			return 0
		}
		for i := k + 1; i < len(rows); i++ {
			for j := k + 1; j < len(rows); j++ {
				rows[i][j] = (rows[i][j]*next - rows[i][k]*rows[k][j]) / number
			}
		}
		number = next
	}
	return number
}
