package refine_test

import (
	"go/ast"
	"go/build"
	"go/importer"
	"go/parser"
	"go/token"
	"go/types"
	"math"
	"math/big"
	"math/rand"
	"os/exec"
	"slices"
	"strings"
	"testing"

	"girder/api"
	"girder/lower"
	"girder/refine"
	"girder/round"
	"girder/solve"
	"girder/vector"
)

const (
	least  = 0x1p-1074
	normal = 0x1p-1022
	most   = math.MaxFloat64
	u      = 0x1p-53
	top    = api.MaxOrder
)

var (
	minus0   = math.Copysign(0, -1)
	inf      = math.Inf(1)
	nan      = math.NaN()
	otherNaN = math.Float64frombits(0xFFF0000000000001)
)

func list(l ...float64) []float64 { return l }

func factor(n int, l, d []float64) api.Factor { return api.Factor{N: n, L: l, D: d} }

// one is a factor of one row.
func one(d float64) api.Factor { return factor(1, nil, list(d)) }

// of is a matrix.
func of(rows, cols int, l ...float64) api.Matrix {
	return api.Matrix{Rows: rows, Cols: cols, Data: l}
}

// below is how many numbers stand below the diagonal of n rows.
func below(n int) int { return n * (n - 1) / 2 }

// all is a list of n times x.
func all(n int, x float64) []float64 { return slices.Repeat(list(x), n) }

// plain is a factor of n rows whose L is noughts, whose D is d.
func plain(n int, d float64) api.Factor { return factor(n, make([]float64, below(n)), all(n, d)) }

// diagonal is the square matrix with those numbers on its diagonal.
func diagonal(l ...float64) api.Matrix {
	m := of(len(l), len(l), make([]float64, len(l)*len(l))...)
	for i, x := range l {
		m.Data[i*len(l)+i] = x
	}
	return m
}

// two is the chapter's matrix, and what it is taken apart into.
func two() (api.Matrix, api.Factor) {
	m := of(2, 2, 4, 1, 1, 3)
	f, _, _ := lower.Factor(m)
	return m, f
}

func same(a, b float64) bool {
	return math.Float64bits(a) == math.Float64bits(b) || a != a && b != b
}

func sameList(a, b []float64) bool { return slices.EqualFunc(a, b, same) }

func allFinite(l []float64) bool {
	return !slices.ContainsFunc(l, func(x float64) bool { return math.IsInf(x, 0) || math.IsNaN(x) })
}

// pool is floats at all edges, of both signs; finite ones first.
func pool() []float64 {
	var out []float64
	for _, x := range list(0, least, 3*least, normal-least, normal, 0x1p-537, u, 0.1, 1, 1+2*u, 3, 0x1p53, 0x1p512, 0x1p970, 0x1p1023, most) {
		out = append(out, x, -x)
	}
	return append(out, minus0, inf, -inf, nan, otherNaN)
}

// edges is what of the pool is finite.
func edges() []float64 { return pool()[:len(pool())-4] }

// strange is what of the pool is not finite.
func strange() []float64 { return pool()[len(pool())-4:] }

// anyFinite is a finite float of any size.
func anyFinite(r *rand.Rand) float64 {
	switch r.Intn(4) {
	case 0:
		return edges()[r.Intn(len(edges()))]
	case 1:
		return math.Ldexp(r.Float64()-0.5, r.Intn(120)-60)
	case 2:
		return float64(r.Intn(41) - 20)
	}
	for {
		if x := math.Float64frombits(r.Uint64()); !math.IsInf(x, 0) && !math.IsNaN(x) {
			return x
		}
	}
}

// anyFloat is a float, now and then one that is not finite.
func anyFloat(r *rand.Rand) float64 {
	if r.Intn(8) == 0 {
		return strange()[r.Intn(len(strange()))]
	}
	return anyFinite(r)
}

// fraction is a finite float of about the size of 1.
func fraction(r *rand.Rand) float64 { return math.Ldexp(r.Float64()-0.5, r.Intn(8)) }

// tiny is a float whose products are about the least ones.
func tiny(r *rand.Rand) float64 { return math.Ldexp(r.Float64()-0.5, -537+r.Intn(9)-4) }

// great is a float whose products are about the greatest ones.
func great(r *rand.Rand) float64 { return math.Ldexp(r.Float64()-0.5, 512+r.Intn(5)-2) }

// nought is a 0 of either sign, now and then a small number.
func nought(r *rand.Rand) float64 { return list(0, minus0, minus0, 0, 1, -1)[r.Intn(6)] }

func kinds() []func(r *rand.Rand) float64 {
	return []func(r *rand.Rand) float64{anyFinite, fraction, fraction, tiny, great, nought}
}

func many(r *rand.Rand, n int, number func(r *rand.Rand) float64) []float64 {
	out := make([]float64, n)
	for i := range out {
		out[i] = number(r)
	}
	return out
}

// orders are counts of rows, the edges among them.
func orders() []int { return []int{0, 1, 2, 3, 4, 7, 20, top - 1, top} }

// exactly is a finite float in so many bits that no sum of a row's products is rounded.
func exactly(x float64) *big.Float { return new(big.Float).SetPrec(4400).SetFloat64(x) }

// leftByWords is what is left, reckoned by the library's long floats; it may have infinities.
func leftByWords(m api.Matrix, x, b []float64) []float64 {
	out := make([]float64, m.Rows)
	for i := range out {
		s := exactly(b[i])
		for j := range m.Cols {
			product := exactly(m.Data[i*m.Cols+j])
			s.Sub(s, product.Mul(product, exactly(x[j])))
		}
		if s.Sign() != 0 {
			out[i], _ = s.Float64()
		}
	}
	return out
}

// stepByWords is Step of what fits, by the chapter's words.
func stepByWords(m api.Matrix, f api.Factor, x, b []float64) ([]float64, api.Errno) {
	l := leftByWords(m, x, b)
	if !allFinite(l) {
		return nil, api.ErrOver
	}
	s, e := solve.Solve(f, l)
	if e != api.OK {
		return nil, e
	}
	out := make([]float64, len(x))
	for i := range out {
		out[i] = round.Add(x[i], s[i], api.Nearest)
	}
	if !allFinite(out) {
		return nil, api.ErrOver
	}
	return out, api.OK
}

// untilByWords is Until of what fits, by the chapter's words.
func untilByWords(m api.Matrix, f api.Factor, b []float64, times int) ([]float64, int, api.Errno) {
	x, e := solve.Solve(f, b)
	if e != api.OK {
		return nil, 0, e
	}
	if !allFinite(x) || !allFinite(leftByWords(m, x, b)) {
		return nil, 0, api.ErrOver
	}
	count := 0
	for count < times {
		y, e := stepByWords(m, f, x, b)
		if e != api.OK {
			break
		}
		after := leftByWords(m, y, b)
		if !allFinite(after) || !(vector.Norm(after) < vector.Norm(leftByWords(m, x, b))) {
			break
		}
		x = y
		count++
	}
	return x, count, api.OK
}

// isLeft checks that Left tells that list, with OK.
func isLeft(t *testing.T, m api.Matrix, x, b, want []float64) {
	t.Helper()
	if got, e := refine.Left(m, x, b); e != api.OK || !sameList(got, want) {
		t.Errorf("Left of %v, %v, %v: %v, %v, want %v", m, x, b, got, e, want)
	}
}

// noLeft checks that Left tells that error and nothing beside it.
func noLeft(t *testing.T, m api.Matrix, x, b []float64, want api.Errno) {
	t.Helper()
	if got, e := refine.Left(m, x, b); e != want || len(got) != 0 {
		t.Errorf("Left of %d by %d (%d), %d, %d: %v, %v, want %v", m.Rows, m.Cols, len(m.Data), len(x), len(b), got, e, want)
	}
}

// isStep checks that Step tells that list, with OK.
func isStep(t *testing.T, m api.Matrix, f api.Factor, x, b, want []float64) {
	t.Helper()
	if got, e := refine.Step(m, f, x, b); e != api.OK || !sameList(got, want) {
		t.Errorf("Step of %v, %v, %v, %v: %v, %v, want %v", m, f, x, b, got, e, want)
	}
}

// noStep checks that Step tells that error and nothing beside it.
func noStep(t *testing.T, m api.Matrix, f api.Factor, x, b []float64, want api.Errno) {
	t.Helper()
	if got, e := refine.Step(m, f, x, b); e != want || len(got) != 0 {
		t.Errorf("Step of %d by %d (%d), N %d (%d, %d), %d, %d: %v, %v, want %v", m.Rows, m.Cols, len(m.Data), f.N, len(f.L), len(f.D), len(x), len(b), got, e, want)
	}
}

// isUntil checks that Until tells that list and count, with OK.
func isUntil(t *testing.T, m api.Matrix, f api.Factor, b []float64, times int, want []float64, count int) {
	t.Helper()
	if got, n, e := refine.Until(m, f, b, times); e != api.OK || n != count || !sameList(got, want) {
		t.Errorf("Until of %v, %v, %v, %d: %v, %d, %v, want %v, %d", m, f, b, times, got, n, e, want, count)
	}
}

// noUntil checks that Until tells that error and nothing beside it.
func noUntil(t *testing.T, m api.Matrix, f api.Factor, b []float64, times int, want api.Errno) {
	t.Helper()
	if got, n, e := refine.Until(m, f, b, times); e != want || n != 0 || len(got) != 0 {
		t.Errorf("Until of %d by %d (%d), N %d (%d, %d), %d, %d: %v, %d, %v, want %v", m.Rows, m.Cols, len(m.Data), f.N, len(f.L), len(f.D), len(b), times, got, n, e, want)
	}
}

// leftAsByWords checks Left of what fits, and is finite, to the bit; it tells whether it is OK.
func leftAsByWords(t *testing.T, m api.Matrix, x, b []float64) bool {
	t.Helper()
	want := leftByWords(m, x, b)
	if !allFinite(want) {
		noLeft(t, m, x, b, api.ErrOver)
		return false
	}
	isLeft(t, m, x, b, want)
	return true
}

// stepAsByWords checks Step of what fits, and is finite, to the bit; it tells the error.
func stepAsByWords(t *testing.T, m api.Matrix, f api.Factor, x, b []float64) api.Errno {
	t.Helper()
	want, e := stepByWords(m, f, x, b)
	if e != api.OK {
		noStep(t, m, f, x, b, e)
		return e
	}
	isStep(t, m, f, x, b, want)
	return e
}

// untilAsByWords checks Until of what fits, and is finite, to the bit; it tells how many steps count, and the error.
func untilAsByWords(t *testing.T, m api.Matrix, f api.Factor, b []float64, times int) (int, api.Errno) {
	t.Helper()
	want, count, e := untilByWords(m, f, b, times)
	if e != api.OK {
		noUntil(t, m, f, b, times, e)
		return 0, e
	}
	isUntil(t, m, f, b, times, want, count)
	return count, e
}

// P14.1 to P14.3: the chapter's examples.
func TestExamples(t *testing.T) {
	m, f := two()
	isLeft(t, m, list(0, 0), list(1, 2), list(1, 2))
	isLeft(t, m, list(1, 1), list(5, 4), list(0, 0))
	noLeft(t, of(1, 1, 0x1p600), list(0x1p600), list(0), api.ErrOver)
	isLeft(t, of(1, 2, 1, 1), list(0x1p60, 1), list(0x1p60), list(-1))
	solved, _ := solve.Solve(f, list(5, 4))
	sum, _ := vector.Add(list(0, 0), solved)
	isStep(t, m, f, list(0, 0), list(5, 4), sum)
	x, n, e := refine.Until(m, f, list(5, 4), 8)
	if e != api.OK || !sameList(x, list(1, 1)) || n < 0 || n > 8 || n > 0 && sameList(solved, list(1, 1)) {
		t.Error(x, n, e)
	}
	noUntil(t, m, f, list(5, 4), -1, api.ErrArg)
	noUntil(t, m, f, list(5, 4), 65, api.ErrArg)
	noUntil(t, m, factor(2, list(0.25), list(4, 0)), list(5, 4), 8, api.ErrZero)
	noStep(t, m, factor(2, list(0.25), list(4, 0)), list(0, 0), list(5, 4), api.ErrZero)
	isUntil(t, of(0, 0), api.Factor{}, nil, 8, nil, 0)
}

// P14.1: what is left, where sums in floats would lose it, in whatever order; noughts, and what is rounded to them.
func TestLeftExamples(t *testing.T) {
	for _, c := range []struct {
		m       api.Matrix
		x, b, l []float64
	}{
		{of(1, 1, 3), list(2), list(10), list(4)},
		{of(1, 1, 3), list(-2), list(10), list(16)},
		{of(2, 3, 1, 2, 3, 4, 5, 6), list(1, 10, 100), list(400, 7), list(79, -647)},
		{of(3, 2, 1, 2, 3, 4, 5, 6), list(1, 10), list(0, 50, 70), list(-21, 7, 5)},
		{of(1, 3, 1, 1, 1), list(0x1p60, 1, -0x1p60), list(3), list(2)},
		{of(1, 3, 1, 1, 1), list(0x1p1000, 1, -0x1p1000), list(least), list(-1)},
		{of(1, 3, 1, 1, 1), list(0x1p1000, 1, -0x1p1000), list(1), list(0)},
		{of(1, 2, 0x1p600, 0x1p600), list(0x1p600, -0x1p600), list(3), list(3)},
		{of(1, 2, most, -most), list(most, most), list(-least), list(-least)},
		{of(1, 2, most, least), list(0, least), list(most), list(most)},
		{of(1, 3, most, least, most), list(most, least, -most), list(0), list(minus0)},
		{of(1, 1, 1+2*u), list(1 + 2*u), list(1 + 4*u), list(-0x1p-104)},
		{of(1, 1, 1+2*u), list(1 - u), list(1), list(-u + 0x1p-105)},
		{of(1, 1, 0.1), list(10), list(1), list(-0x1p-54)},
		{of(1, 2, 0x1p-60, 1), list(1, 1), list(1), list(-0x1p-60)},
		{of(1, 1, 1), list(u), list(1), list(1 - u)},
		{of(1, 1, 1), list(u/2 + 0x1p-100), list(1), list(1 - u)},
		{of(1, 1, 1), list(u / 2), list(1), list(1)},    // of two the one whose last bit is 0
		{of(1, 1, 1), list(-u), list(1), list(1)},       // likewise, the other way
		{of(1, 1, -3), list(u), list(1), list(1 + 4*u)}, // likewise, away from 0
		{of(1, 1, 1), list(-u - 0x1p-105), list(1), list(1 + 2*u)},
		{of(1, 2, 1, 1), list(-u, -0x1p-1000), list(1), list(1 + 2*u)}, // rounded once, not twice
		// An exact 0 is +0, however it comes about.
		{of(1, 1, 1), list(1), list(1), list(0)},
		{of(1, 1, 0), list(5), list(minus0), list(0)},
		{of(1, 1, minus0), list(5), list(minus0), list(0)},
		{of(1, 1, 1), list(minus0), list(minus0), list(0)},
		{of(1, 1, 1), list(0), list(minus0), list(0)},
		{of(1, 1, -1), list(0), list(0), list(0)},
		{of(1, 2, 0x1p-600, 0x1p-600), list(0x1p-600, -0x1p-600), list(0), list(0)},
		{of(2, 0), nil, list(minus0, -3), list(0, -3)},
		{of(1, 1, 0), list(least), list(-least), list(-least)},
		// What is not 0 and rounded to 0 is the nought of its sign.
		{of(1, 1, 0x1p-600), list(0x1p-600), list(0), list(minus0)},
		{of(1, 1, -0x1p-600), list(0x1p-600), list(0), list(0)},
		{of(1, 1, least), list(least), list(minus0), list(minus0)},
		{of(1, 1, -least), list(least), list(minus0), list(0)},
		{of(1, 1, 0.5), list(least), list(0), list(minus0)},
		{of(1, 1, -0.5), list(least), list(minus0), list(0)},
		{of(1, 2, 0.5, least), list(least, least), list(0), list(-least)},
		{of(1, 2, 0.5, -least), list(least, least), list(0), list(minus0)},
		{of(1, 1, 0.5), list(least), list(least), list(0)},
		{of(1, 1, 0.5), list(3 * least), list(0), list(-2 * least)},
		{of(1, 1, 0.75), list(least), list(least), list(0)},
		{of(1, 1, 0.25), list(least), list(least), list(least)},
		{of(1, 1, 1), list(normal - least), list(normal), list(least)},
		// No rows, no columns.
		{of(0, 0), nil, nil, nil},
		{of(0, 3), list(1, 2, 3), nil, nil},
		{of(3, 0), nil, list(1, 2, 3), list(1, 2, 3)},
	} {
		isLeft(t, c.m, c.x, c.b, c.l)
	}
}

// P14.1: what is left and not finite, though all numbers are; from which number on it is so.
func TestLeftTooGreat(t *testing.T) {
	step := 0x1p970 // half of what the greatest float is apart from the one below it
	for _, c := range []struct {
		m    api.Matrix
		x, b []float64
	}{
		{of(1, 1, 0x1p600), list(0x1p600), list(0)},
		{of(1, 1, 0x1p512), list(0x1p512), list(0)},
		{of(1, 1, -0x1p600), list(0x1p600), list(most)},
		{of(1, 1, most), list(most), list(-most)},
		{of(1, 1, most), list(2), list(0)},
		{of(1, 1, 1), list(-most), list(most)},
		{of(1, 1, -1), list(step), list(most)},
		{of(1, 1, 1), list(step), list(-most)},
		{of(1, 2, -1, -1), list(step, least), list(most)},
		{of(2, 1, 1, 0x1p600), list(0x1p600), list(0, 0)},
		{of(2, 1, 0x1p600, 1), list(0x1p600), list(0, 0)},
	} {
		noLeft(t, c.m, c.x, c.b, api.ErrOver)
	}
	isLeft(t, of(1, 2, -1, 1), list(step, least), list(most), list(most))
	isLeft(t, of(1, 2, 1, -1), list(step, least), list(-most), list(-most))
	isLeft(t, of(1, 1, -1), list(step*(1-u)), list(most), list(most))
	isLeft(t, of(1, 1, 1), list(most), list(most), list(0))
	isLeft(t, of(1, 1, 2), list(most), list(most), list(-most))
	isLeft(t, of(1, 1, 0x1p512), list(0x1p512-0x1p459), list(0), list(-most))
	for _, n := range []int{1, 2, 7, top} {
		for _, at := range []int{0, n / 2, n - 1} {
			m := diagonal(all(n, 1)...)
			m.Data[at*n+at] = 0x1p600
			noLeft(t, m, all(n, 0x1p600), all(n, 1), api.ErrOver)
		}
	}
}

// P14.1: to the bit, of matrices of each shape, of floats of all kinds.
func TestLeftToTheBit(t *testing.T) {
	r := rand.New(rand.NewSource(1))
	pick := func() func(r *rand.Rand) float64 { return kinds()[r.Intn(len(kinds()))] }
	good, over := 0, 0
	check := func(rows, cols int) {
		t.Helper()
		if leftAsByWords(t, of(rows, cols, many(r, rows*cols, pick())...), many(r, cols, pick()), many(r, rows, pick())) {
			good++
		} else {
			over++
		}
	}
	for _, rows := range orders() {
		for _, cols := range orders() {
			check(rows, cols)
		}
	}
	for range 6000 {
		check(1+r.Intn(3), r.Intn(5))
	}
	if good < 2000 || over < 100 {
		t.Error(good, "lists were told,", over, "were too great")
	}
}

// P14.1: the edges of floats against one another.
func TestLeftEdgesToTheBit(t *testing.T) {
	for _, x := range edges() {
		for _, y := range edges() {
			leftAsByWords(t, of(1, 1, x), list(y), list(0))
			leftAsByWords(t, of(1, 1, 1), list(x), list(y))
			leftAsByWords(t, of(1, 2, x, 1), list(0.1, y), list(3))
			for _, z := range edges() {
				leftAsByWords(t, of(1, 1, x), list(y), list(z))
			}
		}
	}
}

// P14.1: what is left by what a row comes to exactly, in rows of all lengths, and by one number more or less.
func TestLeftOfCancelledRows(t *testing.T) {
	r := rand.New(rand.NewSource(2))
	for n := 1; n <= top/2; n++ {
		half, x := many(r, n, anyFinite), many(r, n, anyFinite)
		m := of(1, 2*n, append(slices.Clone(half), half...)...)
		isLeft(t, m, append(slices.Clone(x), opposite(x)...), list(0), list(0))
		for _, b := range list(1, -least, 0.1, most, -normal) {
			isLeft(t, m, append(slices.Clone(x), opposite(x)...), list(b), list(b))
		}
	}
}

// opposite is each number with the other sign.
func opposite(l []float64) []float64 {
	out := slices.Clone(l)
	for i := range out {
		out[i] = -out[i]
	}
	return out
}

// wrongMatrices are matrices that are not right.
func wrongMatrices() []api.Matrix {
	return []api.Matrix{
		of(1, 1), of(1, 1, 1, 2), of(2, 2, 1, 2, 3), of(2, 2, 1, 2, 3, 4, 5), of(0, 0, 1), of(0, 1, 1), of(1, 0, 1),
		of(-1, 0), of(0, -1), of(-1, -1, 1), of(-1, -1), of(1, -1), of(-2, 2, 1, 2, 3, 4),
		of(top+1, 1, make([]float64, top+1)...), of(1, top+1, make([]float64, top+1)...), of(top+1, 0), of(0, top+1),
		of(top+1, top+1, make([]float64, (top+1)*(top+1))...), of(top+1, top+1),
		of(1<<32, 1<<32), of(1<<62, 4), of(math.MaxInt, math.MaxInt, 1), of(math.MinInt, math.MinInt), of(math.MinInt, 2),
		of(1, 1, nan, nan), of(2, 2, inf),
	}
}

// wrongFactors are factors that are not right.
func wrongFactors() []api.Factor {
	return []api.Factor{
		factor(2, nil, all(2, 1)), factor(2, list(1, 2), all(2, 1)), factor(2, list(1), all(1, 1)), factor(2, list(1), all(3, 1)), factor(2, list(1), nil),
		factor(2, list(1), list(0)), factor(1, list(1), list(1)), factor(1, nil, nil), factor(1, nil, list(0, 0)),
		factor(0, list(1), nil), factor(0, nil, list(0)), factor(-1, nil, nil), factor(-1, list(1), nil), factor(-1, list(1), list(1)),
		factor(3, list(1, 2), all(3, 1)), factor(3, make([]float64, 4), all(3, 1)),
		factor(top, make([]float64, below(top)), all(top-1, 1)), factor(top, make([]float64, below(top)+1), all(top, 1)),
		factor(top+1, make([]float64, below(top+1)), all(top+1, 1)), factor(top+1, make([]float64, below(top+1)), all(top+1, 0)),
		factor(math.MaxInt, nil, nil), factor(math.MinInt, nil, nil), factor(1<<32, nil, nil), factor(1<<32+1, nil, list(1)),
	}
}

// P14.1 to P14.3: matrices that are not right, whatever stands beside them; numbers that are not finite stay behind that.
func TestWrongMatrices(t *testing.T) {
	for _, m := range wrongMatrices() {
		for _, n := range []int{0, 1, 2, len(m.Data), top - 1, top, top + 1} {
			for _, x := range list(1, nan, 0x1p600) {
				noLeft(t, m, all(n, x), all(n, x), api.ErrShape)
				noStep(t, m, plain(n, 0), all(n, x), all(n, x), api.ErrShape)
				noUntil(t, m, plain(n, 0), all(n, x), 8, api.ErrShape)
			}
		}
		for _, n := range []int{-1, math.MaxInt, math.MinInt} {
			noStep(t, m, factor(n, nil, nil), nil, nil, api.ErrShape)
			noUntil(t, m, factor(n, nil, nil), nil, 8, api.ErrShape)
		}
		if m.Rows >= 0 && m.Rows <= top+1 && m.Cols >= 0 && m.Cols <= top+1 {
			noLeft(t, m, all(m.Cols, 1), all(m.Rows, 1), api.ErrShape)
			noStep(t, m, plain(m.Rows, 1), all(m.Cols, 1), all(m.Rows, 1), api.ErrShape)
			noUntil(t, m, plain(m.Rows, 1), all(m.Rows, 1), 8, api.ErrShape)
		}
	}
}

// P14.1 to P14.3: a number of x or b too few or too many, of matrices of each shape; what else is wrong stays behind that.
func TestWrongLists(t *testing.T) {
	for _, rows := range orders() {
		for _, cols := range orders() {
			for _, number := range list(1, nan, inf, 0x1p600) {
				m := of(rows, cols, all(rows*cols, number)...)
				for _, off := range [][2]int{{1, 0}, {-1, 0}, {0, 1}, {0, -1}, {1, 1}, {-1, -1}, {1, -1}, {-1, 1}} {
					x, b := cols+off[0], rows+off[1]
					if x < 0 || b < 0 {
						continue
					}
					noLeft(t, m, all(x, number), all(b, number), api.ErrShape)
					noStep(t, m, plain(rows, 0), all(x, number), all(b, number), api.ErrShape)
					noStep(t, m, plain(cols, 1), all(x, number), all(b, number), api.ErrShape)
					if b != rows {
						noUntil(t, m, plain(rows, 0), all(b, number), 8, api.ErrShape)
						noUntil(t, m, plain(b, 1), all(b, number), 8, api.ErrShape)
					}
				}
			}
		}
	}
}

// notSquare checks that Step and Until refuse a matrix by its shape, whichever of its sides lists are as long as.
func notSquare(t *testing.T, m api.Matrix, f api.Factor, number float64) {
	t.Helper()
	noStep(t, m, f, all(m.Cols, number), all(m.Rows, number), api.ErrShape)
	noUntil(t, m, f, all(m.Rows, number), 8, api.ErrShape)
	noUntil(t, m, f, all(m.Cols, number), 8, api.ErrShape)
}

// P14.2, P14.3: matrices that are not square fit no factor, though Left takes them; what else is wrong stays behind that.
func TestNotSquare(t *testing.T) {
	for _, rows := range orders() {
		for _, cols := range orders() {
			m := of(rows, cols, make([]float64, rows*cols)...)
			isLeft(t, m, all(cols, 1), all(rows, 1), all(rows, 1))
			if rows == cols {
				continue
			}
			for _, number := range list(1, nan, inf, 0x1p600) {
				m := of(rows, cols, all(rows*cols, number)...)
				for _, d := range list(1, 0, 0x1p-1000) {
					notSquare(t, m, plain(rows, d), number)
					notSquare(t, m, plain(cols, d), number)
				}
			}
		}
	}
}

// P14.2, P14.3: factors that are not right, or of another order than the matrix.
func TestWrongFactors(t *testing.T) {
	for _, n := range []int{0, 1, 2, 3, top} {
		for _, number := range list(1, nan, 0x1p600) {
			m, l := of(n, n, all(n*n, number)...), all(n, number)
			for _, f := range wrongFactors() {
				noStep(t, m, f, l, l, api.ErrShape)
				noUntil(t, m, f, l, 0, api.ErrShape)
				noUntil(t, m, f, l, 64, api.ErrShape)
			}
			for _, other := range []int{0, 1, 2, 3, n - 1, n + 1, top - 1, top} {
				if other < 0 || other == n {
					continue
				}
				for _, d := range list(1, 0) {
					noStep(t, m, plain(other, d), l, l, api.ErrShape)
					noUntil(t, m, plain(other, d), l, 8, api.ErrShape)
				}
			}
		}
	}
}

// P14.1 to P14.3: 48 rows may be, 49 may not.
func TestMostRows(t *testing.T) {
	for _, n := range []int{0, 1, top} {
		m := diagonal(all(n, 2)...)
		isLeft(t, m, all(n, 3), all(n, 7), all(n, 1))
		isStep(t, m, plain(n, 2), all(n, 3), all(n, 7), all(n, 3.5))
		isUntil(t, m, plain(n, 2), all(n, 7), 64, all(n, 3.5), 0)
	}
	n := top + 1
	m := diagonal(all(n, 2)...)
	noLeft(t, m, all(n, 3), all(n, 7), api.ErrShape)
	noStep(t, m, plain(n, 2), all(n, 3), all(n, 7), api.ErrShape)
	noUntil(t, m, plain(n, 2), all(n, 7), 64, api.ErrShape)
}

// P14.1 to P14.3: a number that is not finite, at each place of m, x and b, ahead of what is too great and of noughts in D.
func TestNotFinite(t *testing.T) {
	for _, n := range []int{1, 2, 3} {
		for _, number := range list(1, 0x1p600) {
			for _, bad := range strange() {
				for at := range n*n + 2*n {
					m, x, b := of(n, n, all(n*n, number)...), all(n, number), all(n, number)
					switch {
					case at < n*n:
						m.Data[at] = bad
					case at < n*n+n:
						x[at-n*n] = bad
					default:
						b[at-n*n-n] = bad
					}
					noLeft(t, m, x, b, api.ErrNumber)
					for _, d := range list(1, 0, 0x1p-1000, nan) {
						noStep(t, m, plain(n, d), x, b, api.ErrNumber)
						if at < n*n || at >= n*n+n {
							noUntil(t, m, plain(n, d), b, 0, api.ErrNumber)
							noUntil(t, m, plain(n, d), b, 64, api.ErrNumber)
						}
					}
				}
			}
		}
	}
	// Without rows or columns x and b are asked all the same.
	noLeft(t, of(0, 2), list(1, nan), nil, api.ErrNumber)
	noLeft(t, of(2, 0), nil, list(inf, 1), api.ErrNumber)
	// A 0 beside them does not make them good.
	noLeft(t, of(1, 1, 0), list(inf), list(1), api.ErrNumber)
	noLeft(t, of(1, 1, nan), list(0), list(1), api.ErrNumber)
	// At the last place of the greatest one.
	for _, bad := range strange() {
		m := diagonal(all(top, 1)...)
		m.Data[top*top-1] = bad
		noLeft(t, m, all(top, 1), all(top, 1), api.ErrNumber)
		noStep(t, m, plain(top, 1), all(top, 1), all(top, 1), api.ErrNumber)
		noUntil(t, m, plain(top, 1), all(top, 1), 64, api.ErrNumber)
	}
}

// P14.2: what is left, solved and put to x: each sum rounded by itself, noughts of either sign.
func TestStepExamples(t *testing.T) {
	m, f := two()
	isStep(t, m, f, list(1, 1), list(5, 4), list(1, 1))
	for _, c := range []struct {
		m       api.Matrix
		f       api.Factor
		x, b, y []float64
	}{
		{of(1, 1, 3), one(4), list(2), list(10), list(3)},
		{of(1, 1, 3), one(-4), list(2), list(10), list(1)},
		{of(1, 1, 3), one(inf), list(2), list(10), list(2)},
		{of(1, 1, 3), one(least), list(2), list(6), list(2)},
		{of(2, 2, 4, 2, 2, 5), factor(2, list(0.5), list(4, 4)), list(0, 0), list(8, 12), list(1, 2)},
		{of(2, 2, 4, 2, 2, 5), factor(2, list(0.5), list(4, 4)), list(7, -9), list(8, 12), list(1, 2)},
		{of(2, 2, 4, 7, -1, 5), factor(2, list(0), list(4, 8)), list(1, 1), list(23, 20), list(4, 3)}, // m need not be symmetric
		{of(1, 1, 1), one(1), list(1), list(1 + 2*u), list(1 + 2*u)},
		{of(1, 1, 0), one(1), list(1), list(u), list(1)},
		{of(1, 1, 0), one(1), list(1), list(3 * u), list(1 + 4*u)},
		{of(1, 1, 0), one(1), list(1), list(u * (1 + 2*u)), list(1 + 2*u)},
		{of(1, 1, 0), one(3), list(1), list(3 * u), list(1)},
		{of(1, 1, 0), one(1), list(0x1p53), list(1), list(0x1p53)},
		{of(1, 1, 0), one(1), list(most), list(0x1p969), list(most)},
		{of(1, 1, 0), one(1), list(-most), list(most), list(0)},
		// Noughts: what is left is +0, so that over a number below 0 it is -0.
		{of(1, 1, 1), one(1), list(minus0), list(0), list(0)},
		{of(1, 1, 1), one(-1), list(minus0), list(0), list(minus0)},
		{of(1, 1, 1), one(-1), list(0), list(0), list(0)},
		{of(1, 1, 1), one(inf), list(minus0), list(-1), list(minus0)},
		{of(1, 1, 0x1p-600), one(1), list(0x1p-600), list(0), list(0x1p-600)},
		{of(1, 1, 1), one(4), list(least), list(3 * least), list(least)},
		{of(1, 1, 0.5), one(1), list(least), list(0), list(least)},
		// What is left is reckoned exactly ahead of it.
		{of(2, 2, 0x1p60, 1, 1, 1), factor(2, list(0), list(1, 1)), list(1, 1), list(0x1p60, 2), list(0, 1)},
	} {
		isStep(t, c.m, c.f, c.x, c.b, c.y)
		stepAsByWords(t, c.m, c.f, c.x, c.b)
	}
}

// P14.2: which error comes first: what is left too great, then noughts in D, then sums that are not finite.
func TestStepErrors(t *testing.T) {
	for _, c := range []struct {
		m    api.Matrix
		f    api.Factor
		x, b []float64
		want api.Errno
	}{
		{of(1, 1, 0x1p600), one(0), list(0x1p600), list(0), api.ErrOver},
		{of(1, 1, 0x1p600), one(1), list(0x1p600), list(0), api.ErrOver},
		{of(1, 1, 1), one(0), list(1), list(1), api.ErrZero},
		{of(1, 1, 1), one(minus0), list(1), list(1), api.ErrZero},
		{of(1, 1, 1), one(0), list(1), list(2), api.ErrZero},
		{of(2, 2, 1, 0, 0, 1), factor(2, list(nan), list(0, 1)), list(1, 1), list(1, 1), api.ErrZero},
		{of(2, 2, 1, 0, 0, 1), factor(2, list(0x1p1000), list(0x1p-1000, minus0)), list(1, 1), list(3, 1), api.ErrZero},
		{of(2, 2, 1, 0, 0, 1), factor(2, list(1), list(nan, 0)), list(1, 1), list(1, 1), api.ErrZero},
		{of(1, 1, 1), one(0x1p-1000), list(0), list(0x1p100), api.ErrOver},
		{of(1, 1, 1), one(least), list(0), list(1), api.ErrOver},
		{of(1, 1, 1), one(nan), list(1), list(1), api.ErrOver},
		{of(1, 1, 0), one(1), list(most), list(0x1p970), api.ErrOver},
		{of(1, 1, 0), one(-1), list(-most), list(most), api.ErrOver},
		{of(1, 1, 0), one(0.5), list(-most), list(most), api.ErrOver}, // though x and what is solved would come to the greatest one
		{of(2, 2, 1, 0, 0, 1), factor(2, list(inf), list(1, 1)), list(1, 1), list(1, 1), api.ErrOver},
		{of(2, 2, 1, 0, 0, 1), factor(2, list(0), list(1, nan)), list(1, 1), list(1, 1), api.ErrOver},
		{of(2, 2, 1, 0, 0, 1), factor(2, list(0), list(nan, 1)), list(1, 1), list(1, 1), api.ErrOver},
		{diagonal(0, 0, 0), plain(3, 1), list(1, most, 1), list(1, most, 1), api.ErrOver},
		{diagonal(0, 0, 0), plain(3, 1), list(1, 1, -most), list(1, 1, -most), api.ErrOver},
	} {
		noStep(t, c.m, c.f, c.x, c.b, c.want)
		if e := stepAsByWords(t, c.m, c.f, c.x, c.b); e != c.want {
			t.Error(c.m, c.f, c.x, c.b, e)
		}
	}
	isStep(t, diagonal(0), one(1), list(most), list(math.Nextafter(0x1p970, 0)), list(most))
}

// P14.2, P14.3: a 0 of either sign in D, at each row.
func TestZeros(t *testing.T) {
	for _, n := range []int{1, 2, 3, 7, top} {
		for at := range n {
			for _, zero := range list(0, minus0) {
				for _, other := range list(1, nan, 0x1p-1000, 0) {
					f := plain(n, other)
					f.D[at] = zero
					m := diagonal(all(n, 1)...)
					noStep(t, m, f, all(n, 1), all(n, 0x1p100), api.ErrZero)
					noStep(t, m, f, all(n, 1), all(n, 1), api.ErrZero)
					for _, times := range []int{0, 1, 64} {
						noUntil(t, m, f, all(n, 0x1p100), times, api.ErrZero)
						noUntil(t, m, f, all(n, 0), times, api.ErrZero)
					}
				}
			}
		}
	}
}

// P14.2: to the bit, at each order, of floats of all kinds; factors may have any floats.
func TestStepToTheBit(t *testing.T) {
	r := rand.New(rand.NewSource(3))
	pick := func() func(r *rand.Rand) float64 { return kinds()[r.Intn(len(kinds()))] }
	seen := map[api.Errno]int{}
	check := func(n int, numbers, pivots func(r *rand.Rand) float64) {
		t.Helper()
		m, f := of(n, n, many(r, n*n, numbers)...), factor(n, many(r, below(n), pivots), many(r, n, pivots))
		seen[stepAsByWords(t, m, f, many(r, n, pick()), many(r, n, pick()))]++
	}
	for _, n := range orders() {
		for range 4 {
			check(n, fraction, fraction)
			check(n, pick(), anyFloat)
		}
	}
	for range 4000 {
		check(1+r.Intn(4), pick(), fraction)
		check(1+r.Intn(4), pick(), pick())
		check(1+r.Intn(3), fraction, anyFloat)
	}
	for _, e := range []api.Errno{api.OK, api.ErrOver, api.ErrZero} {
		if seen[e] < 300 {
			t.Error("only", seen[e], "were told", e)
		}
	}
}

// spread is a symmetric matrix of n rows whose diagonal is great beside the rest, and what it is taken apart into.
func spread(t *testing.T, r *rand.Rand, n int) (api.Matrix, api.Factor) {
	t.Helper()
	m := of(n, n, make([]float64, n*n)...)
	for i := range n {
		for j := range i {
			m.Data[i*n+j] = r.Float64() - 0.5
			m.Data[j*n+i] = m.Data[i*n+j]
		}
		m.Data[i*n+i] = float64(n) * (1 + r.Float64())
	}
	f, e, _ := lower.Factor(m)
	if e != api.OK {
		t.Fatal(e)
	}
	return m, f
}

// rough is a factor with a part of each number put to it, so that it solves, but not well.
func rough(r *rand.Rand, f api.Factor, part float64) api.Factor {
	out := factor(f.N, slices.Clone(f.L), slices.Clone(f.D))
	for i := range out.L {
		out.L[i] *= 1 + part*(r.Float64()-0.5)
	}
	for i := range out.D {
		out.D[i] *= 1 + part*(r.Float64()-0.5)
	}
	return out
}

// P14.3: how many steps may be: none, one, 64, not 65, not fewer than none; ahead of all else that is wrong.
func TestMostSteps(t *testing.T) {
	m, f := two()
	for _, times := range []int{-1, 65, -64, 66, 1 << 32, math.MaxInt, math.MinInt} {
		noUntil(t, m, f, list(5, 4), times, api.ErrArg)
		noUntil(t, of(0, 0), api.Factor{}, nil, times, api.ErrArg)
		noUntil(t, m, f, list(5), times, api.ErrArg)
		noUntil(t, m, f, list(5, nan), times, api.ErrArg)
		noUntil(t, m, plain(2, 0), list(5, 4), times, api.ErrArg)
		noUntil(t, of(2, 2), f, list(5, 4), times, api.ErrArg)
		noUntil(t, of(2, 2, 1, 2, 3, inf), factor(2, nil, nil), nil, times, api.ErrArg)
	}
	// Each step leaves seven eighths of what was left, so that all of them count: x is 1 less these, so many times.
	left := 1.0
	for times := range 65 {
		left *= 0.875
		x, n, e := refine.Until(of(1, 1, 1), one(8), list(1), times)
		if e != api.OK || n != times || len(x) != 1 || math.Abs(1-left-x[0]) > 0x1p-50 {
			t.Error(times, x, n, e)
		}
		untilAsByWords(t, of(1, 1, 1), one(8), list(1), times)
	}
	isUntil(t, of(1, 1, 1), one(8), list(1), 0, list(0.125), 0)
	isUntil(t, of(1, 1, 1), one(8), list(1), 1, list(0.234375), 1)
	isUntil(t, of(1, 1, 1), one(8), list(1), 2, list(0.330078125), 2)
}

// P14.3: steps that count, and those that do not: where as much is left as before, where more is left, where a step is refused.
func TestUntilExamples(t *testing.T) {
	for _, c := range []struct {
		m     api.Matrix
		f     api.Factor
		b     []float64
		times int
		x     []float64
		count int
	}{
		// Nothing is left at once.
		{of(1, 1, 4), one(4), list(3), 64, list(0.75), 0},
		{of(1, 1, 4), one(4), list(0), 64, list(0), 0},
		{of(1, 1, 4), one(-4), list(0), 64, list(minus0), 0}, // x is not put to 0
		{of(1, 1, 4), one(4), list(minus0), 64, list(minus0), 0},
		{of(0, 0), api.Factor{}, nil, 0, nil, 0},
		{of(0, 0), api.Factor{}, nil, 64, nil, 0},
		// Half of it is left after each step: 1/2, 1/4, 1/8.
		{of(1, 1, 1), one(2), list(1), 0, list(0.5), 0},
		{of(1, 1, 1), one(2), list(1), 1, list(0.75), 1},
		{of(1, 1, 1), one(2), list(1), 3, list(0.9375), 3},
		{of(1, 1, 1), one(2), list(-1), 3, list(-0.9375), 3},
		{of(1, 1, 1), one(2), list(1), 64, list(1), 53}, // at last 1 - u and u / 2 are 1: nothing is left
		// As much is left, with the other sign.
		{of(1, 1, 1), one(0.5), list(1), 64, list(2), 0},
		{of(1, 1, 2), one(1), list(3), 64, list(3), 0},
		// As much is left, as a step does nothing.
		{of(1, 1, 1), one(inf), list(1), 64, list(0), 0},
		{of(1, 1, 1), one(-inf), list(1), 64, list(minus0), 0},
		{of(1, 1, 0), one(1), list(1), 64, list(1), 0},
		// As much is left when it is rounded, though less is left exactly.
		{of(1, 1, 1), one(0x1p60), list(1), 64, list(0x1p-60), 0},
		// As much is left in all, more in one row, less in the other.
		{diagonal(1, 1), factor(2, list(0), list(2, 0.25)), list(24, 1), 64, list(12, 4), 0},
		{diagonal(1, 1), factor(2, list(0), list(2, 0.25)), list(32, 1), 64, list(24, -8), 1}, // less in all, then more
		{of(2, 2, 0, 1, 1, 0), factor(2, list(0), list(1, 1)), list(3, 5), 64, list(3, 5), 0},
		// More is left.
		{of(1, 1, 1), one(0.25), list(1), 64, list(4), 0},
		{of(1, 1, 1), one(-1), list(1), 64, list(-1), 0},
		// A step is refused: the sum is too great.
		{of(1, 1, 1), one(0x1p-600), list(0x1p400), 64, list(0x1p1000), 0},
		{of(1, 1, -1), one(0x1p-600), list(0x1p400), 64, list(0x1p1000), 0},
		// What is left by it is too great.
		{of(1, 1, 0x1p20), one(1), list(0x1p990), 64, list(0x1p990), 0},
		// The norms are infinite, though no number is: a step counts if the next one is not.
		{diagonal(1, 1, 1), plain(3, 4), all(3, 0x1.8p1023), 64, all(3, 0x1.8p1021), 0},
		{diagonal(1, 1, 1), plain(3, 2), all(3, 0x1.8p1023), 1, all(3, 0x1.2p1023), 1},
	} {
		isUntil(t, c.m, c.f, c.b, c.times, c.x, c.count)
		untilAsByWords(t, c.m, c.f, c.b, c.times)
	}
}

// P14.3: which error comes first, whatever is most.
func TestUntilErrors(t *testing.T) {
	for _, c := range []struct {
		m    api.Matrix
		f    api.Factor
		b    []float64
		want api.Errno
	}{
		{of(1, 1, nan), factor(1, list(1), list(0)), list(nan), api.ErrShape},
		{of(1, 1, nan), one(0), list(1), api.ErrNumber},
		{of(1, 1, 1), one(0), list(inf), api.ErrNumber},
		{of(1, 1, 0x1p600), one(0), list(0x1p600), api.ErrZero},
		{of(2, 2, 1, 0, 0, 1), factor(2, list(nan), list(0, 1)), list(1, 1), api.ErrZero},
		{of(2, 2, 1, 0, 0, 1), factor(2, list(0), list(0x1p-1000, minus0)), list(0x1p100, 1), api.ErrZero},
		{of(1, 1, 1), one(0x1p-1000), list(0x1p100), api.ErrOver}, // x is not finite
		{of(1, 1, 1), one(-0x1p-1000), list(0x1p100), api.ErrOver},
		{of(1, 1, 0), one(0x1p-1000), list(0x1p100), api.ErrOver},
		{of(1, 1, 1), one(nan), list(1), api.ErrOver},
		{of(2, 2, 1, 0, 0, 1), factor(2, list(inf), list(1, 1)), list(0, 1), api.ErrOver},
		{of(2, 2, 1, 0, 0, 1), factor(2, list(0), list(1, nan)), list(1, 1), api.ErrOver},
		{of(1, 1, 0x1p900), one(0x1p-500), list(0x1p100), api.ErrOver}, // what is left is not finite
		{of(1, 1, -0x1p900), one(0x1p-500), list(0x1p100), api.ErrOver},
		{of(2, 2, 1, 0, 0, 0x1p900), factor(2, list(0), list(1, 0x1p-500)), list(1, 0x1p100), api.ErrOver},
	} {
		for _, times := range []int{0, 1, 8, 64} {
			noUntil(t, c.m, c.f, c.b, times, c.want)
		}
	}
}

// P14.3: to the bit, at each order: of factors that are right, that are rough, that are any.
func TestUntilToTheBit(t *testing.T) {
	r := rand.New(rand.NewSource(4))
	pick := func() func(r *rand.Rand) float64 { return kinds()[r.Intn(len(kinds()))] }
	counts, errors := map[int]int{}, map[api.Errno]int{}
	check := func(m api.Matrix, f api.Factor, b []float64, times int) {
		t.Helper()
		n, e := untilAsByWords(t, m, f, b, times)
		counts[n]++
		errors[e]++
	}
	for _, n := range orders() {
		m, f := spread(t, r, n)
		check(m, f, many(r, n, fraction), 4)
		check(m, rough(r, f, 0.01), many(r, n, fraction), 3)
	}
	for range 300 {
		n := 1 + r.Intn(6)
		m, f := spread(t, r, n)
		check(m, f, many(r, n, fraction), 64)
		check(m, rough(r, f, 0.5), many(r, n, fraction), 64)
		check(m, rough(r, f, 1.9), many(r, n, fraction), r.Intn(65))
		check(m, rough(r, f, 0.1), many(r, n, pick()), r.Intn(10))
		check(of(n, n, many(r, n*n, pick())...), factor(n, many(r, below(n), pick()), many(r, n, pick())), many(r, n, pick()), r.Intn(65))
		check(of(n, n, many(r, n*n, fraction)...), factor(n, many(r, below(n), anyFloat), many(r, n, anyFloat)), many(r, n, fraction), r.Intn(65))
	}
	if counts[0] < 300 || counts[1] < 100 || counts[2] < 30 || len(counts) < 15 {
		t.Error("so many steps counted so often:", counts)
	}
	if errors[api.OK] < 500 || errors[api.ErrOver] < 100 || errors[api.ErrZero] < 30 {
		t.Error("so many errors:", errors)
	}
}

// normOf is the norm of what is left by x.
func normOf(t *testing.T, m api.Matrix, x, b []float64) float64 {
	t.Helper()
	l, e := refine.Left(m, x, b)
	if e != api.OK {
		t.Fatal(e)
	}
	return vector.Norm(l)
}

// P14.4: with each step that counts less is left; with a greater most the answer is the same, or less is left.
func TestLessAndLess(t *testing.T) {
	r := rand.New(rand.NewSource(5))
	counted := 0
	for range 60 {
		n := 1 + r.Intn(5)
		m, f := spread(t, r, n)
		f, b := rough(r, f, 1.5), many(r, n, fraction)
		first, e := solve.Solve(f, b)
		if e != api.OK {
			t.Fatal(e)
		}
		before, last, lastCount := normOf(t, m, first, b), first, 0
		for times := range 65 {
			x, count, e := refine.Until(m, f, b, times)
			if e != api.OK || count > times || count < lastCount || count > lastCount+1 {
				t.Fatal(times, count, lastCount, e)
			}
			now := normOf(t, m, x, b)
			if count == lastCount && !sameList(x, last) || count > lastCount && !(now < before) {
				t.Errorf("%d steps, then %d: %v, then %v, of which %g, then %g is left", lastCount, count, last, x, before, now)
			}
			before, last, lastCount = now, x, count
		}
		counted += lastCount
	}
	if counted < 300 {
		t.Error("only", counted, "steps counted")
	}
}

// P14.4: of what comes out of lower.Factor little is left, and no more than by the first x.
func TestLittleIsLeft(t *testing.T) {
	r := rand.New(rand.NewSource(6))
	for _, n := range orders() {
		m, f := spread(t, r, n)
		b := many(r, n, fraction)
		first, _ := solve.Solve(f, b)
		x, count, e := refine.Until(m, f, b, 8)
		if e != api.OK || count > 8 {
			t.Fatal(count, e)
		}
		now := normOf(t, m, x, b)
		if now > normOf(t, m, first, b) || now > 0x1p-35 {
			t.Errorf("%d rows: %g is left", n, now)
		}
	}
}

// P14.4: where what is left is nothing but noughts, Step answers what is equal to x, whatever finite factor there is.
func TestNothingLeft(t *testing.T) {
	r := rand.New(rand.NewSource(7))
	for range 500 {
		n := r.Intn(6)
		m, x := of(n, n, wholes(r, n*n, 1<<20)...), wholes(r, n, 1<<20)
		for i := range x {
			if r.Intn(4) == 0 {
				x[i] = list(0, minus0)[r.Intn(2)]
			}
		}
		b := opposite(leftByWords(m, x, make([]float64, n)))
		f := factor(n, many(r, below(n), fraction), many(r, n, fraction))
		isLeft(t, m, x, b, make([]float64, n))
		if y, e := refine.Step(m, f, x, b); e != api.OK || !slices.Equal(y, x) {
			t.Errorf("Step of %v, %v, %v, %v: %v, %v", m, f, x, b, y, e)
		}
		stepAsByWords(t, m, f, x, b)
	}
	// Noughts that stand for what is not 0, too.
	tiny := diagonal(0x1p-600, -0x1p-600)
	x := list(0x1p-600, 0x1p-600)
	isLeft(t, tiny, x, list(0, 0), list(minus0, 0))
	isStep(t, tiny, plain(2, 3), x, list(0, 0), x)
}

// wholes is n whole numbers from -size to size.
func wholes(r *rand.Rand, n, size int) []float64 {
	out := make([]float64, n)
	for i := range out {
		out[i] = float64(r.Intn(2*size+1) - size)
	}
	return out
}

// scaled is a list times 2^k.
func scaled(l []float64, k int) []float64 {
	out := slices.Clone(l)
	for i := range out {
		out[i] = math.Ldexp(out[i], k)
	}
	return out
}

// P14.4: with b and x times a power of two what Left and Step answer is so many times as great, to the bit.
func TestPowersOfTwo(t *testing.T) {
	r := rand.New(rand.NewSource(8))
	number := func(r *rand.Rand) float64 {
		x := math.Ldexp(1+r.Float64(), r.Intn(80)-40)
		return list(x, -x, x, -x, 0x1p-40, -0x1p40)[r.Intn(6)]
	}
	maybe := func(r *rand.Rand) float64 { return list(0, minus0, number(r), number(r))[r.Intn(4)] }
	whole := func(r *rand.Rand) float64 {
		return list(0, 1<<20, -1<<20, wholes(r, 1, 9)[0], wholes(r, 1, 1<<20)[0])[r.Intn(5)]
	}
	for range 300 {
		n := r.Intn(5)
		m, x, b := of(n, n, many(r, n*n, whole)...), many(r, n, whole), many(r, n, whole)
		f := factor(n, many(r, below(n), maybe), many(r, n, number))
		l, e := refine.Left(m, x, b)
		y, e2 := refine.Step(m, f, x, b)
		if e != api.OK || e2 != api.OK {
			t.Fatal(e, e2)
		}
		for k := -20; k <= 20; k++ {
			isLeft(t, m, scaled(x, k), scaled(b, k), scaled(l, k))
			isStep(t, m, f, scaled(x, k), scaled(b, k), scaled(y, k))
		}
	}
}

// roomy is a list with spare room, marked.
func roomy(l []float64) []float64 {
	return append(slices.Clone(l), 77, 77, 77)[:len(l)]
}

// untouched tells whether a roomy list is what it was, its spare room too.
func untouched(l, was []float64) bool {
	return sameList(l, was) && slices.Equal(l[len(l):len(l)+3], list(77, 77, 77))
}

// scribble writes all over a list that was handed out, and its spare room.
func scribble(l []float64, x float64) {
	for i := range l[:cap(l)] {
		l[:cap(l)][i] = x
	}
}

// R3: what comes in stays as it was, its spare room too, whether it is reckoned with or refused.
func TestListsAreLeft(t *testing.T) {
	r := rand.New(rand.NewSource(9))
	for _, n := range []int{0, 1, 2, 5, top} {
		for _, number := range []func(r *rand.Rand) float64{fraction, anyFloat, anyFinite} {
			for _, pivot := range list(8, 1, 0, 0x1p-1000) {
				for spoilt := range 3 {
					data, l, d := many(r, n*n, number), many(r, below(n)+spoilt%2, fraction), all(n, pivot)
					x, b := many(r, n, number), many(r, n+spoilt/2, number)
					m, f := of(n, n, roomy(data)...), factor(n, roomy(l), roomy(d))
					givenX, givenB := roomy(x), roomy(b)
					refine.Left(m, givenX, givenB)
					refine.Step(m, f, givenX, givenB)
					for _, times := range []int{-1, 0, 3} {
						refine.Until(m, f, givenB, times)
					}
					if !untouched(m.Data, data) || !untouched(f.L, l) || !untouched(f.D, d) || !untouched(givenX, x) || !untouched(givenB, b) {
						t.Errorf("changed: %v, %v, %v, %v", m, f, givenX, givenB)
					}
				}
			}
		}
	}
}

// R3: lists that share memory are reckoned with as others are, and stay as they were; answers are apart from them.
func TestListsThatShare(t *testing.T) {
	room := list(4, 1, 1, 3, 2, 9, -7, 0.5, 3)
	was := slices.Clone(room)
	for _, c := range []struct {
		m    api.Matrix
		f    api.Factor
		x, b []float64
	}{
		{api.Matrix{Rows: 2, Cols: 2, Data: room[:4]}, factor(2, room[1:2], room[:2]), room[:2], room[:2]},
		{api.Matrix{Rows: 2, Cols: 2, Data: room[:4]}, factor(2, room[7:8], room[2:4]), room[3:5], room[4:6]},
		{api.Matrix{Rows: 2, Cols: 2, Data: room[:4]}, factor(2, room[:1], room[:2]), room[1:3], room[2:4]},
		{api.Matrix{Rows: 3, Cols: 3, Data: room}, factor(3, room[:3], room[3:6]), room[6:], room[:3]},
		{api.Matrix{Rows: 3, Cols: 3, Data: room}, factor(3, room[:3], room[:3]), room[:3], room[:3]},
		{api.Matrix{Rows: 1, Cols: 1, Data: room[:1]}, factor(1, nil, room[:1]), room[:1], room[:1]},
		{api.Matrix{Rows: 1, Cols: 1, Data: room[3:4]}, factor(1, nil, room[5:6]), room[3:4], room[5:6]},
	} {
		leftAsByWords(t, c.m, c.x, c.b)
		stepAsByWords(t, c.m, c.f, c.x, c.b)
		untilAsByWords(t, c.m, c.f, c.b, 16)
		l, _ := refine.Left(c.m, c.x, c.b)
		scribble(l, 1)
		y, _ := refine.Step(c.m, c.f, c.x, c.b)
		scribble(y, 2)
		for _, times := range []int{0, 16} {
			x, _, _ := refine.Until(c.m, c.f, c.b, times)
			scribble(x, 3)
		}
		if !slices.Equal(room, was) {
			t.Fatal("what came in has changed, or an answer is no new one")
		}
	}
}

// R3, R4: answers share no memory with one another, nor with what came in; what is done with one leaves the next as it is.
func TestAnswersAreApart(t *testing.T) {
	r := rand.New(rand.NewSource(10))
	for _, n := range []int{0, 1, 2, 3, 5, top} {
		m, f := spread(t, r, n)
		f = rough(r, f, 0.5)
		x, b := many(r, n, fraction), many(r, n, fraction)
		given := [][]float64{m.Data, f.L, f.D, x, b}
		var were, lists [][]float64
		for _, l := range given {
			were = append(were, slices.Clone(l))
		}
		for range 2 {
			l, _ := refine.Left(m, x, b)
			y, _ := refine.Step(m, f, x, b)
			lists = append(lists, l, y)
			for _, times := range []int{0, 3} {
				z, _, _ := refine.Until(m, f, b, times)
				lists = append(lists, z)
			}
		}
		for i, l := range lists {
			scribble(l, float64(i))
		}
		for i, l := range lists {
			for _, x := range l[:cap(l)] {
				if x != float64(i) {
					t.Fatal("lists share memory")
				}
			}
		}
		for i := range given {
			if !sameList(given[i], were[i]) {
				t.Errorf("%d rows: what came in has changed", n)
			}
		}
		leftAsByWords(t, m, x, b)
		stepAsByWords(t, m, f, x, b)
		untilAsByWords(t, m, f, b, 3)
	}
}

// R3: what came in is not kept: an answer stays as it is when the lists change behind it.
func TestNotKept(t *testing.T) {
	m, f, x, b := of(1, 1, 1), one(2), list(3), list(1)
	l, _ := refine.Left(m, x, b)
	y, _ := refine.Step(m, f, x, b)
	z, n, _ := refine.Until(m, f, b, 3)
	for _, given := range [][]float64{m.Data, f.D, x, b} {
		scribble(given, 6)
	}
	if !sameList(l, list(-2)) || !sameList(y, list(2)) || !sameList(z, list(0.9375)) || n != 3 {
		t.Error(l, y, z, n)
	}
	isLeft(t, m, x, b, list(-30))
	isStep(t, m, f, x, b, list(1))
	isUntil(t, m, f, b, 3, list(1), 0)
}

// R7: whatever operation on floats there is stands in a conversion, so that no machine joins two of them.
func TestNotJoined(t *testing.T) {
	if build.Default.GOROOT == "" {
		out, _ := exec.Command("go", "env", "GOROOT").Output()
		build.Default.GOROOT = strings.TrimSpace(string(out))
	}
	set := token.NewFileSet()
	file, err := parser.ParseFile(set, "refine.go", nil, 0)
	if err != nil {
		t.Fatal(err)
	}
	info := &types.Info{Types: map[ast.Expr]types.TypeAndValue{}}
	config := types.Config{Importer: importer.ForCompiler(set, "source", nil)}
	if _, err := config.Check("girder/refine", set, []*ast.File{file}, info); err != nil {
		t.Fatal(err)
	}
	isFloat := func(e ast.Expr) bool {
		b, ok := info.Types[e].Type.Underlying().(*types.Basic)
		return ok && b.Info()&types.IsFloat != 0
	}
	alone := map[ast.Expr]bool{}
	ast.Inspect(file, func(n ast.Node) bool {
		switch x := n.(type) {
		case *ast.CallExpr:
			if f, ok := x.Fun.(*ast.Ident); ok && f.Name == "float64" {
				alone[x.Args[0]] = true
			}
		case *ast.BinaryExpr:
			if isFloat(x) && !alone[x] {
				t.Error("an operation stands alone:", set.Position(x.Pos()))
			}
		case *ast.AssignStmt:
			if x.Tok != token.ASSIGN && x.Tok != token.DEFINE && isFloat(x.Lhs[0]) {
				t.Error("an operation stands alone:", set.Position(x.Pos()))
			}
		}
		return true
	})
}
