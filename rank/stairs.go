package rank

import (
	"girder/api"
	"girder/whole"
)

// flags tell of each column whether it is a pivot.
type flags [api.MaxOrder]bool

// eliminate makes stairs of rows, in place, over their first cols columns: of the pivots, rising, each row from the first one on begins with the next; the rows behind these begin behind cols. It tells the pivots.
//
// No fraction turns up on the way (Bareiss's way): each number is a determinant of the numbers that were there, so the pivot ahead divides what two steps make, and none is longer than such a determinant.
func eliminate(rows [][]whole.Number, cols int) flags {
	var pivot flags
	done := 0
	last := whole.Int(1)
	for c := range cols {
		at := begins(rows[done:], c)
		if at < 0 {
			continue
		}
		rows[done], rows[done+at] = rows[done+at], rows[done]
		for i := range len(rows) - done - 1 {
			takeOff(rows[done+1+i], rows[done], c, last)
		}
		pivot[c] = true
		last = rows[done][c]
		done++
	}
	return pivot
}

// begins tells the first of rows that does not have 0 at the column c; -1, if all have.
func begins(rows [][]whole.Number, c int) int {
	for i := range len(rows) {
		if !whole.IsZero(rows[i][c]) {
			return i
		}
	}
	return -1
}

// takeOff takes so many times first off row that its number at c becomes 0; it stays one of whole numbers, each a determinant, since last divides them.
func takeOff(row, first []whole.Number, c int, last whole.Number) {
	pivot, head := first[c], row[c]
	row[c] = whole.Number{}
	for k := range len(row) - c - 1 {
		j := c + 1 + k
		row[j] = whole.Over(whole.Sub(whole.Mul(pivot, row[j]), whole.Mul(head, first[j])), last)
	}
}

// combination tells how the column c, of rows that are stairs, comes out of the pivots ahead of it: their columns, each times its part, added, are over times c.
//
// Over is the determinant of the pivots, so the parts are whole numbers (Cramer's rule).
func combination(rows [][]whole.Number, pivots []int, c int) (parts []whole.Number, over whole.Number) {
	n := len(pivots)
	over = whole.Int(1)
	if n > 0 {
		over = rows[n-1][pivots[n-1]]
	}
	parts = make([]whole.Number, n)
	for k := range n {
		i := n - 1 - k // what is behind it is known
		left := whole.Mul(over, rows[i][c])
		for j := range n {
			if j > i {
				left = whole.Sub(left, whole.Mul(rows[i][pivots[j]], parts[j]))
			}
		}
		parts[i] = whole.Over(left, rows[i][pivots[i]])
	}
	return parts, over
}

// ahead tells the pivots ahead of the column end, rising.
func ahead(pivot flags, end int) []int {
	var pivots []int
	for c := range end {
		if pivot[c] {
			pivots = append(pivots, c)
		}
	}
	return pivots
}
