package inertia

import (
	"girder/whole"
)

// powerSums tells the sums of the eigenvalues of rows to the powers from 1 on, as many as rows, one more if these are odd: the sums of the diagonals of its powers.
//
// Of the product of two symmetric tables the diagonal comes to what the sum of all their entries, each times the one at its place, does: so half as many powers are enough.
func powerSums(rows [][]whole.Number) []whole.Number {
	n := len(rows)
	power := table(n, func(i, j int) whole.Number {
		if i == j {
			return whole.Int(1)
		}
		return whole.Number{}
	})
	var sums []whole.Number
	for range (n + 1) / 2 {
		next := product(rows, power)
		sums = append(sums, together(power, next), together(next, next))
		power = next
	}
	return sums
}

// product is a times b, one of them a power of the other, so it is symmetric too.
func product(a, b [][]whole.Number) [][]whole.Number {
	return table(len(a), func(i, j int) whole.Number { return dot(a[i], b[j]) })
}

// together is the sum of all entries of a, each times that of b at its place.
func together(a, b [][]whole.Number) whole.Number {
	var sum, beside whole.Number
	for i := range len(a) {
		sum = whole.Add(sum, whole.Mul(a[i][i], b[i][i]))
		beside = whole.Add(beside, dot(a[i][:i], b[i][:i]))
	}
	return whole.Add(sum, whole.Add(beside, beside))
}

// dot is the sum of a's numbers, each times that of b at its place.
func dot(a, b []whole.Number) whole.Number {
	var sum whole.Number
	for k := range len(a) {
		sum = whole.Add(sum, whole.Mul(a[k], b[k]))
	}
	return sum
}

// coefficients tells those of the polynomial of degree n, its last one 1, whose roots to the powers from 1 on have these sums, that of the power 0 first (Newton's way).
func coefficients(n int, sums []whole.Number) []whole.Number {
	told := make([]whole.Number, n+1)
	told[n] = whole.Int(1)
	for k := range n {
		at := n - 1 - k
		told[at] = whole.Over(whole.Minus(dot(sums[:k+1], told[at+1:])), whole.Int(int64(k+1)))
	}
	return told
}
