package inertia

import (
	"girder/api"
	"girder/whole"
)

// Tables are symmetric, row by row; only what is not above the diagonal is reckoned, and stands on both sides.

// table is that of n rows with these entries.
func table(n int, entry func(i, j int) whole.Number) [][]whole.Number {
	rows := make([][]whole.Number, n)
	for i := range n {
		rows[i] = make([]whole.Number, n)
		for j := range i + 1 {
			rows[i][j] = entry(i, j)
			rows[j][i] = rows[i][j]
		}
	}
	return rows
}

// signs tells how many eigenvalues of rows are below, at and above 0: as many as numbers of D are, once rows are taken apart into L, D and L turned over (the law of Sylvester).
//
// No fraction turns up on the way (Bareiss's way): each pivot is a determinant of numbers that were there, and D's number is that over the pivot ahead.
func signs(rows [][]whole.Number) api.Signs {
	var told api.Signs
	last := whole.Int(1)
	for i, j, found := seek(rows); found; i, j, found = seek(rows) {
		if i != j {
			lend(rows, i, j)
		}
		pivot := rows[i][i]
		if pivot.Neg == last.Neg {
			told.Above++
		} else {
			told.Below++
		}
		rows, last = cleared(rows, i, last), pivot
	}
	told.At = len(rows)
	return told
}

// seek tells the first place of an entry that is not 0, of those on the diagonal ahead of all others; not found: all are 0.
func seek(rows [][]whole.Number) (i, j int, found bool) {
	n := len(rows)
search:
	for apart := range n {
		for i = range n - apart {
			j = i + apart
			if found = !whole.IsZero(rows[i][j]); found {
				break search
			}
		}
	}
	return i, j, found
}

// lend adds the row j to the row i, then the column j to the column i, which changes no sign. Where the diagonal has noughts alone, its entry at i becomes twice that at (i, j).
func lend(rows [][]whole.Number, i, j int) {
	n := len(rows)
	for k := range n {
		rows[i][k] = whole.Add(rows[i][k], rows[j][k])
	}
	for k := range n {
		rows[k][i] = whole.Add(rows[k][i], rows[k][j])
	}
}

// cleared is what is left of rows without the row and the column at, once that row was taken off the others so often that they have 0 in that column. It is made of determinants too: last, the pivot ahead, divides what two steps make.
func cleared(rows [][]whole.Number, at int, last whole.Number) [][]whole.Number {
	pivot, first := rows[at][at], rows[at]
	return table(len(rows)-1, func(i, j int) whole.Number {
		i, j = past(at, i), past(at, j)
		return whole.Over(whole.Sub(whole.Mul(pivot, rows[i][j]), whole.Mul(first[i], first[j])), last)
	})
}

// past is the place k once the place at is left out.
func past(at, k int) int {
	if k >= at {
		return k + 1
	}
	return k
}
