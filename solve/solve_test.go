package solve_test

import (
	"go/ast"
	"go/build"
	"go/importer"
	"go/parser"
	"go/token"
	"go/types"
	"math"
	"math/rand"
	"os/exec"
	"slices"
	"strings"
	"testing"

	"girder/api"
	"girder/lower"
	"girder/matrix"
	"girder/round"
	"girder/solve"
)

const (
	least  = 0x1p-1074
	normal = 0x1p-1022
	most   = math.MaxFloat64
	u      = 0x1p-53
	top    = api.MaxOrder
)

var (
	minus0   = math.Copysign(0, -1)
	inf      = math.Inf(1)
	nan      = math.NaN()
	otherNaN = math.Float64frombits(0xFFF0000000000001)
)

// less, times, over are one operation each, rounded by itself.
func less(a, b float64) float64  { return round.Sub(a, b, api.Nearest) }
func times(a, b float64) float64 { return round.Mul(a, b, api.Nearest) }
func over(a, b float64) float64  { return round.Div(a, b, api.Nearest) }

func list(l ...float64) []float64 { return l }

func factor(n int, l, d []float64) api.Factor { return api.Factor{N: n, L: l, D: d} }

// of is a matrix of n rows and columns.
func of(n int, l ...float64) api.Matrix { return api.Matrix{Rows: n, Cols: n, Data: l} }

// below is how many numbers stand below the diagonal of n rows.
func below(n int) int { return n * (n - 1) / 2 }

// ones is a list of n ones.
func ones(n int) []float64 { return slices.Repeat(list(1), n) }

// plain is a factor of n rows whose L is noughts, whose D is ones.
func plain(n int) api.Factor { return factor(n, make([]float64, below(n)), ones(n)) }

// unit is the list of n numbers that has 1 at j, else +0.
func unit(n, j int) []float64 {
	out := make([]float64, n)
	out[j] = 1
	return out
}

func same(a, b float64) bool {
	return math.Float64bits(a) == math.Float64bits(b) || a != a && b != b
}

func sameList(a, b []float64) bool { return slices.EqualFunc(a, b, same) }

func sameMatrix(a, b api.Matrix) bool {
	return a.Rows == b.Rows && a.Cols == b.Cols && sameList(a.Data, b.Data)
}

// pool is floats at all edges, of both signs.
func pool() []float64 {
	var out []float64
	for _, x := range list(0, least, 3*least, normal-least, normal, 0x1p-537, u, 0.1, 1, 1+2*u, 3, 0x1p53, 0x1p512, 0x1p970, 0x1p1023, most, inf) {
		out = append(out, x, -x)
	}
	return append(out, minus0, nan, otherNaN)
}

// anyFloat is a float, now of any size, now of about that of 1, now of a few.
func anyFloat(r *rand.Rand) float64 {
	switch r.Intn(4) {
	case 0:
		return float64(r.Intn(41) - 20)
	case 1:
		return math.Ldexp(r.Float64()-0.5, r.Intn(120)-60)
	case 2:
		return pool()[r.Intn(len(pool()))]
	}
	return math.Float64frombits(r.Uint64())
}

// fraction is a finite float of about the size of 1.
func fraction(r *rand.Rand) float64 { return math.Ldexp(r.Float64()-0.5, r.Intn(8)) }

// tiny is a float that is subnormal, or nearly.
func tiny(r *rand.Rand) float64 { return math.Ldexp(r.Float64()-0.5, -1074+r.Intn(60)) }

// great is a float near the greatest ones.
func great(r *rand.Rand) float64 { return math.Ldexp(r.Float64()-0.5, 1024-r.Intn(8)) }

// nought is a 0 of either sign, now and then a small number.
func nought(r *rand.Rand) float64 { return list(0, minus0, minus0, 0, 1, -1)[r.Intn(6)] }

func many(r *rand.Rand, n int, number func(r *rand.Rand) float64) []float64 {
	out := make([]float64, n)
	for i := range out {
		out[i] = number(r)
	}
	return out
}

// divisors is n floats of that kind, none of which is equal to 0.
func divisors(r *rand.Rand, n int, number func(r *rand.Rand) float64) []float64 {
	out := many(r, n, number)
	for i := range out {
		if out[i] == 0 {
			out[i] = -3
		}
	}
	return out
}

// orders are counts of rows, the edges among them.
func orders() []int { return []int{0, 1, 2, 3, 4, 7, 20, top - 1, top} }

// forwardByWords is Forward by the chapter's words, one operation at a time.
func forwardByWords(f api.Factor, b []float64) []float64 {
	var y [top]float64
	for i := 0; i < f.N; i++ {
		y[i] = b[i]
		for k := 0; k <= i-1; k++ {
			y[i] = less(y[i], times(f.L[i*(i-1)/2+k], y[k]))
		}
	}
	return slices.Clone(y[:f.N])
}

// backByWords is Back by the chapter's words, one operation at a time.
func backByWords(f api.Factor, b []float64) []float64 {
	var z, x [top]float64
	for i := 0; i < f.N; i++ {
		z[i] = over(b[i], f.D[i])
	}
	for i := f.N - 1; i >= 0; i-- {
		x[i] = z[i]
		for k := i + 1; k <= f.N-1; k++ {
			x[i] = less(x[i], times(f.L[k*(k-1)/2+i], x[k]))
		}
	}
	return slices.Clone(x[:f.N])
}

func solveByWords(f api.Factor, b []float64) []float64 {
	return backByWords(f, forwardByWords(f, b))
}

// inverseByWords is Inverse by the chapter's words, column by column.
func inverseByWords(f api.Factor) api.Matrix {
	m := of(f.N, make([]float64, f.N*f.N)...)
	for j := range f.N {
		for i, x := range solveByWords(f, unit(f.N, j)) {
			m.Data[i*f.N+j] = x
		}
	}
	return m
}

// call is one of the three calls that tell a list.
type call func(f api.Factor, b []float64) ([]float64, api.Errno)

// is checks that a call tells that list, with OK.
func is(t *testing.T, name string, c call, f api.Factor, b, want []float64) {
	t.Helper()
	if got, e := c(f, b); e != api.OK || !sameList(got, want) {
		t.Errorf("%s of %v and %v: %v, %v, want %v", name, f, b, got, e, want)
	}
}

// isInverse checks that Inverse tells that matrix, with OK, and that it is right.
func isInverse(t *testing.T, f api.Factor, want api.Matrix) {
	t.Helper()
	if got, e := solve.Inverse(f); e != api.OK || !sameMatrix(got, want) || !matrix.Right(got) {
		t.Errorf("Inverse of %v: %v, %v, want %v", f, got, e, want)
	}
}

// refused checks that a call tells an error and nothing beside it.
func refused(t *testing.T, name string, c call, f api.Factor, b []float64, want api.Errno) {
	t.Helper()
	if got, e := c(f, b); e != want || len(got) != 0 {
		t.Errorf("%s of N %d, %d and %d numbers, with %d: %v, %v, want %v", name, f.N, len(f.L), len(f.D), len(b), got, e, want)
	}
}

// noInverse checks that Inverse tells an error and nothing beside it.
func noInverse(t *testing.T, f api.Factor, want api.Errno) {
	t.Helper()
	if m, e := solve.Inverse(f); e != want || !sameMatrix(m, api.Matrix{}) {
		t.Errorf("Inverse of N %d, %d and %d numbers: %v, %v, want %v", f.N, len(f.L), len(f.D), m, e, want)
	}
}

// asByWords checks all calls of a right factor without a 0 in D to the bit.
func asByWords(t *testing.T, f api.Factor, b []float64) {
	t.Helper()
	is(t, "Forward", solve.Forward, f, b, forwardByWords(f, b))
	is(t, "Back", solve.Back, f, b, backByWords(f, b))
	is(t, "Solve", solve.Solve, f, b, solveByWords(f, b))
}

// P13.1 to P13.3: the chapter's examples.
func TestExamples(t *testing.T) {
	two := factor(2, list(2), list(1, 4))
	is(t, "Forward", solve.Forward, two, list(3, 10), list(3, 4))
	is(t, "Back", solve.Back, two, list(3, 4), list(1, 1))
	is(t, "Solve", solve.Solve, two, list(3, 10), list(1, 1))
	isInverse(t, two, of(2, 2, -0.5, -0.5, 0.25))
	for _, d := range list(0, minus0) {
		one := factor(1, nil, list(d))
		is(t, "Forward", solve.Forward, one, list(5), list(5))
		refused(t, "Solve", solve.Solve, one, list(5), api.ErrZero)
	}
	is(t, "Solve", solve.Solve, factor(1, nil, list(inf)), list(5), list(0))
	is(t, "Solve", solve.Solve, factor(1, nil, list(inf)), list(-5), list(minus0))
	is(t, "Solve", solve.Solve, factor(1, nil, list(nan)), list(5), list(nan))
	refused(t, "Solve", solve.Solve, factor(1, nil, list(1)), list(1, 2), api.ErrShape)
	refused(t, "Solve", solve.Solve, factor(2, nil, list(1, 1)), list(1, 2), api.ErrShape)
}

// P13.1 to P13.3: a factor without rows.
func TestNoRows(t *testing.T) {
	for _, f := range []api.Factor{{}, factor(0, list(), list()), factor(0, list(1)[:0], list(1)[:0])} {
		for _, b := range [][]float64{nil, list(), list(1)[:0]} {
			is(t, "Forward", solve.Forward, f, b, nil)
			is(t, "Back", solve.Back, f, b, nil)
			is(t, "Solve", solve.Solve, f, b, nil)
		}
		isInverse(t, f, api.Matrix{})
	}
}

// P13.1: what is taken off, in which order; noughts, infinities, NaN; none of them is an error.
func TestForwardExamples(t *testing.T) {
	for _, c := range []struct{ l, b, want []float64 }{
		{nil, list(5), list(5)},
		{nil, list(minus0), list(minus0)},
		{nil, list(inf), list(inf)},
		{nil, list(-inf), list(-inf)},
		{nil, list(nan), list(nan)},
		{nil, list(-least), list(-least)},
		{list(2, 3, 1), list(1, 4, 8), list(1, 2, 3)},
		{list(2, 3, 1), list(1, 0, 0), list(1, -2, -1)},
		{list(2, 3, 5, 7, 11, 13), list(1, 3, 10, 100), list(1, 1, 2, 56)},
		{list(0, -1, 1), list(0x1p53, 1, -0x1p53), list(0x1p53, 1, -1)},     // the other way round it would be 0
		{list(0, 1, -1), list(0x1p53, 0x1p53, -1), list(0x1p53, 0x1p53, 0)}, // the products summed first it would be -1
		{list(1 + 2*u), list(1+2*u, 1+4*u), list(1+2*u, 0)},                 // joined it would be -2^-104
		{list(0), list(0, minus0), list(0, minus0)},
		{list(1), list(minus0, minus0), list(minus0, 0)},
		{list(minus0), list(5, minus0), list(5, 0)},
		{list(0), list(5, minus0), list(5, minus0)},
		{list(1), list(7, 7), list(7, 0)},
		{list(0x1p600), list(0x1p600, 1), list(0x1p600, -inf)},
		{list(-0x1p600), list(0x1p600, -1), list(0x1p600, inf)},
		{list(1), list(most, -most), list(most, -inf)},
		{list(0x1p600), list(0x1p600, inf), list(0x1p600, nan)},
		{list(0x1p600), list(0x1p600, -inf), list(0x1p600, -inf)},
		{list(0), list(inf, 1), list(inf, nan)},
		{list(inf), list(0, 1), list(0, nan)},
		{list(inf), list(-1, 1), list(-1, inf)},
		{list(nan), list(0, 1), list(0, nan)},
		{list(1), list(nan, 1), list(nan, nan)},
		{list(0, 0, 1), list(1, nan, 1), list(1, nan, nan)},
		{list(0.5), list(least, 0), list(least, 0)},
		{list(0.5), list(least, minus0), list(least, minus0)},
		{list(-0.5), list(least, minus0), list(least, 0)},
		{list(0.75), list(least, least), list(least, 0)},
		{list(0.75), list(3*least, 0), list(3*least, -2*least)}, // 9/4 of the least one
		{list(0x1p-600, 1, 0), list(0x1p-600, 1, 1), list(0x1p-600, 1, 1)},
	} {
		n := len(c.b)
		for _, d := range list(1, 0, minus0, -2, inf, nan) { // D counts for nothing
			is(t, "Forward", solve.Forward, factor(n, c.l, slices.Repeat(list(d), n)), c.b, c.want)
		}
	}
}

// P13.2: quotients first, then what is taken off, in which order; noughts, infinities, NaN; none of them but a 0 in D is an error.
func TestBackExamples(t *testing.T) {
	third := 1. / 3
	for _, c := range []struct{ l, d, b, want []float64 }{
		{nil, list(4), list(3), list(0.75)},
		{nil, list(3), list(1), list(third)},
		{nil, list(-4), list(0), list(minus0)},
		{nil, list(-4), list(minus0), list(0)},
		{nil, list(inf), list(5), list(0)},
		{nil, list(-inf), list(5), list(minus0)},
		{nil, list(inf), list(inf), list(nan)},
		{nil, list(2), list(inf), list(inf)},
		{nil, list(nan), list(0), list(nan)},
		{nil, list(1), list(nan), list(nan)},
		{nil, list(least), list(1), list(inf)},
		{nil, list(-least), list(1), list(-inf)},
		{nil, list(least), list(least), list(1)},
		{nil, list(2), list(least), list(0)},
		{nil, list(-2), list(least), list(minus0)},
		{nil, list(2), list(3 * least), list(2 * least)},
		{nil, list(most), list(least), list(0)},
		{nil, list(0.5), list(most), list(inf)},
		{list(2, 3, 1), list(1, 4, 5), list(10, 20, 15), list(-3, 2, 3)},
		{list(2, 3, 1), list(1, -4, 5), list(10, -20, 15), list(-3, 2, 3)},
		{list(-1, 1, 0), ones(3), list(-0x1p53, 0x1p53, 1), list(-1, 0x1p53, 1)},     // the other way round it would be 0
		{list(1, -1, 0), ones(3), list(-1, 0x1p53, 0x1p53), list(0, 0x1p53, 0x1p53)}, // the products summed first it would be -1
		{list(1 + 2*u), ones(2), list(1+4*u, 1+2*u), list(0, 1+2*u)},                 // joined it would be -2^-104
		{list(1), list(3, 1), list(1, 1), list(less(third, 1), 1)},                   // divided at last it would be -2/3
		{list(1), list(0x1p-1000, 1), list(0x1p100, 0x1p1000), list(inf, 0x1p1000)},
		{list(0x1p600), ones(2), list(1, 0x1p600), list(-inf, 0x1p600)},
		{list(1), ones(2), list(-most, most), list(-inf, most)},
		{list(1), list(least, least), list(1, 1), list(nan, inf)},
		{list(-1), list(least, least), list(1, 1), list(inf, inf)},
		{list(0), list(1, least), list(1, 1), list(nan, inf)},
		{list(inf), ones(2), list(1, 0), list(nan, 0)},
		{list(inf), ones(2), list(1, -2), list(inf, -2)},
		{list(nan), ones(2), list(1, 0), list(nan, 0)},
		{list(0), ones(2), list(minus0, 0), list(minus0, 0)},
		{list(1), ones(2), list(minus0, minus0), list(0, minus0)},
		{list(0), list(-1, -1), list(0, 5), list(0, -5)}, // -0 less -0
		{list(0), list(1, inf), list(5, -1), list(5, minus0)},
		{list(0), list(nan, 1), list(1, 1), list(nan, 1)},
		{list(0), list(1, nan), list(1, 1), list(nan, nan)},
		{list(0.5), ones(2), list(minus0, least), list(minus0, least)},
		{list(-0.5), ones(2), list(minus0, least), list(0, least)},
	} {
		is(t, "Back", solve.Back, factor(len(c.b), c.l, c.d), c.b, c.want)
	}
}

// P13.3: both ways behind one another, of matrices that no pivots above 0 come out of, too.
func TestSolveExamples(t *testing.T) {
	for _, c := range []struct{ l, d, b, want []float64 }{
		{nil, list(-4), list(2), list(-0.5)},
		{nil, list(-inf), list(minus0), list(0)},
		{nil, list(least), list(-1), list(-inf)},
		{list(2, 3, 1), list(1, 4, 5), list(14, 48, 77), list(1, 2, 3)},
		{list(2, 3, 1), list(1, -4, 5), list(14, 8, 37), list(1, 2, 3)},
		{list(-1), list(-1, -1), list(2, 3), list(-7, -5)},
		{list(0), list(1, inf), list(3, -5), list(3, minus0)},
		{list(1), list(1, nan), list(3, 5), list(nan, nan)},
		{list(0x1p600), list(1, 1), list(0x1p600, 1), list(inf, -inf)},
		{list(inf), list(1, 1), list(0, 1), list(nan, nan)},
	} {
		is(t, "Solve", solve.Solve, factor(len(c.b), c.l, c.d), c.b, c.want)
	}
}

// P13.3: columns, not rows, are what Solve tells; noughts of either sign, infinities and NaN among them.
func TestInverseExamples(t *testing.T) {
	for _, c := range []struct {
		f    api.Factor
		want api.Matrix
	}{
		{factor(1, nil, list(2)), of(1, 0.5)},
		{factor(1, nil, list(-inf)), of(1, minus0)},
		{factor(1, nil, list(nan)), of(1, nan)},
		{factor(1, nil, list(least)), of(1, inf)},
		{factor(2, list(0), list(1, 1)), of(2, 1, 0, 0, 1)},
		{factor(2, list(minus0), list(1, 1)), of(2, 1, 0, 0, 1)},
		{factor(2, list(0), list(-1, -1)), of(2, -1, 0, minus0, -1)},
		{factor(2, list(inf), list(1, 1)), of(2, inf, nan, -inf, nan)},
		{factor(2, list(0), list(1, nan)), of(2, nan, nan, nan, nan)},
		{factor(2, list(0), list(nan, 1)), of(2, nan, nan, 0, 1)},
		{factor(2, list(0x1p600), list(1, 1)), of(2, inf, -0x1p600, -0x1p600, 1)},
		{factor(2, list(1), list(0x1p-1000, 0x1p-1000)), of(2, 0x1p1001, -0x1p1000, -0x1p1000, 0x1p1000)},
		{factor(3, list(2, 3, 1), list(1, -1, 1)), of(3, -2, 3, -1, 3, 0, -1, -1, -1, 1)},
		{factor(3, list(1, 0, 1), list(1, 2, 4)), of(3, 1.75, -0.75, 0.25, -0.75, 0.75, -0.25, 0.25, -0.25, 0.25)},
	} {
		isInverse(t, c.f, c.want)
	}
}

// P13.1 to P13.3: each operation as the chapter tells it, whichever floats stand in the factor and the list, at each order.
func TestToTheBit(t *testing.T) {
	r := rand.New(rand.NewSource(1))
	kinds := []func(r *rand.Rand) float64{anyFloat, fraction, fraction, tiny, great, nought}
	pick := func() func(r *rand.Rand) float64 { return kinds[r.Intn(len(kinds))] }
	for _, n := range orders() {
		for range 40 {
			f := factor(n, many(r, below(n), pick()), divisors(r, n, pick()))
			asByWords(t, f, many(r, n, pick()))
		}
		for range 40 {
			f := factor(n, many(r, below(n), fraction), divisors(r, n, fraction))
			asByWords(t, f, many(r, n, fraction))
		}
	}
	for range 6000 {
		n := 1 + r.Intn(5)
		f := factor(n, many(r, below(n), pick()), divisors(r, n, pick()))
		asByWords(t, f, many(r, n, pick()))
	}
}

// P13.1 to P13.3: the edges of floats against one another, at each place of a small factor.
func TestEdgesToTheBit(t *testing.T) {
	for _, x := range pool() {
		for _, y := range pool() {
			asByWords(t, factor(2, list(x), list(1, 1)), list(y, 1))
			asByWords(t, factor(2, list(x), list(3, 7)), list(1, y))
			asByWords(t, factor(3, list(0.1, x, y), list(1, -0.3, 5)), list(3, 0.1, 1))
			asByWords(t, factor(3, list(x, 0.1, -3), list(0.7, 1, 3)), list(0.1, y, -1))
			if y != 0 {
				asByWords(t, factor(1, nil, list(y)), list(x))
				asByWords(t, factor(2, list(x), list(y, 1)), list(1, minus0))
				asByWords(t, factor(2, list(0.1), list(1, y)), list(minus0, x))
				isInverse(t, factor(2, list(x), list(y, 3)), inverseByWords(factor(2, list(x), list(y, 3))))
				isInverse(t, factor(2, list(x), list(3, y)), inverseByWords(factor(2, list(x), list(3, y))))
			}
		}
	}
}

// P13.3: Inverse to the bit: of fractions, of any floats, of what comes out of matrices, at each order.
func TestInverseToTheBit(t *testing.T) {
	r := rand.New(rand.NewSource(2))
	uneven := 0
	check := func(f api.Factor) {
		t.Helper()
		want := inverseByWords(f)
		isInverse(t, f, want)
		if !matrix.Symmetric(want) {
			uneven++
		}
	}
	for _, n := range orders() {
		for _, number := range []func(r *rand.Rand) float64{anyFloat, fraction, tiny, great, nought} {
			check(factor(n, many(r, below(n), number), divisors(r, n, number)))
			check(factor(n, many(r, below(n), fraction), divisors(r, n, number)))
		}
	}
	for range 1500 {
		n := 1 + r.Intn(5)
		check(factor(n, many(r, below(n), fraction), divisors(r, n, fraction)))
		check(factor(n, many(r, below(n), anyFloat), divisors(r, n, anyFloat)))
	}
	if uneven < 500 {
		t.Error("only", uneven, "are told apart from themselves turned over")
	}
}

// P13.3: Solve is Back of Forward, and Inverse's column j Solve of the list with 1 at j, by the calls themselves.
func TestByOneAnother(t *testing.T) {
	r := rand.New(rand.NewSource(3))
	for _, n := range orders() {
		for range 10 {
			f, b := factor(n, many(r, below(n), fraction), divisors(r, n, fraction)), many(r, n, anyFloat)
			y, e := solve.Forward(f, b)
			if e != api.OK {
				t.Fatal(e)
			}
			x, e := solve.Back(f, y)
			if e != api.OK {
				t.Fatal(e)
			}
			is(t, "Solve", solve.Solve, f, b, x)
			m, e := solve.Inverse(f)
			if e != api.OK || m.Rows != n || m.Cols != n {
				t.Fatal(m, e)
			}
			for j := range n {
				column := make([]float64, n)
				for i := range n {
					column[i] = m.Data[i*n+j]
				}
				is(t, "Solve", solve.Solve, f, unit(n, j), column)
			}
		}
	}
}

// wrong are factors that are not right, noughts in D among them.
func wrong() []api.Factor {
	out := []api.Factor{
		factor(2, nil, ones(2)),
		factor(2, list(1, 2), ones(2)),
		factor(2, list(1), ones(1)),
		factor(2, list(1), ones(3)),
		factor(2, list(1), nil),
		factor(2, nil, list(0, 0)),
		factor(2, list(1), list(0)),
		factor(1, list(1), list(1)),
		factor(1, list(1), list(0)),
		factor(1, nil, nil),
		factor(1, nil, list(0, 0)),
		factor(0, list(1), nil),
		factor(0, nil, list(1)),
		factor(0, nil, list(0)),
		factor(-1, nil, nil),
		factor(-1, list(1), nil),
		factor(-1, list(1), list(1)),
		factor(-1, list(0), list(0)),
		factor(-2, list(1, 2, 3), nil),
		factor(3, list(1, 2), ones(3)),
		factor(3, list(1, 2, 3, 4), ones(3)),
		factor(3, make([]float64, 6), ones(3)),
		factor(top+1, make([]float64, below(top+1)), ones(top+1)),
		factor(top+1, make([]float64, below(top)), ones(top)),
		factor(top+1, make([]float64, below(top+1)), make([]float64, top+1)),
		factor(top+1, nil, nil),
		factor(math.MaxInt, nil, nil),
		factor(math.MinInt, nil, nil),
		factor(1<<32, nil, nil),
		factor(1<<32+1, nil, list(1)),
	}
	for _, n := range []int{1, 2, 3, top} {
		for _, d := range list(0, 1, nan) {
			l, pivots := make([]float64, below(n)), slices.Repeat(list(d), n)
			out = append(out, factor(n, append(slices.Clone(l), 1), pivots), factor(n, l, pivots[1:]), factor(n, l, append(slices.Clone(pivots), d)))
			if n > 1 {
				out = append(out, factor(n, l[1:], pivots))
			}
		}
	}
	return out
}

// P13.1 to P13.3: factors that are not right, whichever list is beside them; a 0 in D stays behind that.
func TestWrongFactors(t *testing.T) {
	for _, f := range wrong() {
		noInverse(t, f, api.ErrShape)
		for _, n := range []int{0, 1, 2, 3, len(f.D), len(f.L), top - 1, top, top + 1} {
			refused(t, "Forward", solve.Forward, f, ones(n), api.ErrShape)
			refused(t, "Back", solve.Back, f, ones(n), api.ErrShape)
			refused(t, "Solve", solve.Solve, f, ones(n), api.ErrShape)
		}
	}
}

// P13.1 to P13.3: lists that are shorter or longer than the factor has rows; a 0 in D stays behind that.
func TestWrongLists(t *testing.T) {
	for _, n := range orders() {
		for _, d := range list(1, 0, minus0, nan) {
			f := factor(n, make([]float64, below(n)), slices.Repeat(list(d), n))
			for _, many := range []int{0, 1, n - 1, n + 1, 2 * n, below(n), top + 1, 4097} {
				if many < 0 || many == n {
					continue
				}
				refused(t, "Forward", solve.Forward, f, ones(many), api.ErrShape)
				refused(t, "Back", solve.Back, f, ones(many), api.ErrShape)
				refused(t, "Solve", solve.Solve, f, ones(many), api.ErrShape)
			}
		}
	}
}

// P13.2, P13.3: a 0 of either sign in D, at each row, whatever stands beside it, is refused; Forward doesn't ask for it.
func TestZeros(t *testing.T) {
	for _, n := range []int{1, 2, 3, 7, top} {
		for at := range n {
			for _, zero := range list(0, minus0) {
				for _, other := range list(1, -1, nan, inf, least, 0) {
					f := factor(n, slices.Repeat(list(other), below(n)), slices.Repeat(list(other), n))
					f.D[at] = zero
					for _, x := range list(1, 0, nan, inf) {
						b := slices.Repeat(list(x), n)
						is(t, "Forward", solve.Forward, f, b, forwardByWords(f, b))
						refused(t, "Back", solve.Back, f, b, api.ErrZero)
						refused(t, "Solve", solve.Solve, f, b, api.ErrZero)
					}
					noInverse(t, f, api.ErrZero)
				}
			}
		}
	}
}

// P13.2, P13.3: no other number in D is refused, at the first row, in between, at the last.
func TestOtherPivots(t *testing.T) {
	for _, n := range []int{1, 2, 3, 7, top} {
		for _, at := range []int{0, n / 2, n - 1} {
			for _, d := range list(least, -least, normal, most, -most, inf, -inf, nan, otherNaN, -1) {
				f := plain(n)
				f.D[at] = d
				asByWords(t, f, ones(n))
				isInverse(t, f, inverseByWords(f))
			}
		}
	}
}

// wholes is n whole numbers from -size to size.
func wholes(r *rand.Rand, n, size int) []float64 {
	out := make([]float64, n)
	for i := range out {
		out[i] = float64(r.Intn(2*size+1) - size)
	}
	return out
}

// product is L D L turned over times x, in whole numbers.
func product(f api.Factor, x []float64) []float64 {
	at := func(i, k int) int64 {
		if i == k {
			return 1
		}
		return int64(f.L[i*(i-1)/2+k])
	}
	middle := make([]int64, f.N)
	for k := range f.N {
		for i := k; i < f.N; i++ {
			middle[k] += at(i, k) * int64(x[i])
		}
		middle[k] *= int64(f.D[k])
	}
	out := make([]float64, f.N)
	for i := range f.N {
		sum := int64(0)
		for k := range i + 1 {
			sum += at(i, k) * middle[k]
		}
		out[i] = float64(sum)
	}
	return out
}

// P13.4: of small whole numbers Solve of the product is what was multiplied, pivots below 0 among them; the calls below agree on the product.
func TestWholeNumbersComeBack(t *testing.T) {
	r := rand.New(rand.NewSource(4))
	for _, n := range orders() {
		for range 30 {
			f := factor(n, wholes(r, below(n), 9), wholes(r, n, 99))
			for i := range f.D {
				if f.D[i] == 0 {
					f.D[i] = 100
				}
			}
			x := wholes(r, n, 1000)
			b := product(f, x)
			m, e := lower.Times(f)
			if e != api.OK {
				t.Fatal(e)
			}
			if applied, e := matrix.Apply(m, x); e != api.OK || !slices.Equal(applied, b) {
				t.Fatalf("the product of %v and %v: %v, %v, not %v", f, x, applied, e, b)
			}
			if got, e := solve.Solve(f, b); e != api.OK || !slices.Equal(got, x) {
				t.Errorf("Solve of %v and %v: %v, %v, want %v", f, b, got, e, x)
			}
		}
	}
}

// P13.3, P13.4: with pivots of 1 and -1 and small whole numbers the inverse is exact: the matrix times it is the identity.
func TestInverseOfWholeNumbers(t *testing.T) {
	r := rand.New(rand.NewSource(5))
	for range 400 {
		n := r.Intn(6)
		f := factor(n, wholes(r, below(n), 4), ones(n))
		for i := range f.D {
			f.D[i] -= float64(2 * r.Intn(2))
		}
		m, _ := lower.Times(f)
		inverse, e := solve.Inverse(f)
		if e != api.OK {
			t.Fatal(e)
		}
		one, _ := matrix.Identity(n)
		left, _ := matrix.Mul(m, inverse)
		right, _ := matrix.Mul(inverse, m)
		if !slices.Equal(left.Data, one.Data) || !slices.Equal(right.Data, one.Data) {
			t.Errorf("Inverse of %v: %v", f, inverse)
		}
	}
}

// opposite is each number with the other sign.
func opposite(l []float64) []float64 {
	out := slices.Clone(l)
	for i := range out {
		out[i] = -out[i]
	}
	return out
}

// P13.4: Solve of -b is the opposite of Solve of b, whichever floats there are.
func TestOpposite(t *testing.T) {
	r := rand.New(rand.NewSource(6))
	equal := func(a, b float64) bool { return a == b || a != a && b != b }
	check := func(f api.Factor, b []float64) {
		t.Helper()
		x, e := solve.Solve(f, b)
		y, e2 := solve.Solve(f, opposite(b))
		if e != api.OK || e2 != api.OK || !slices.EqualFunc(opposite(x), y, equal) {
			t.Errorf("Solve of %v and %v: %v, %v, of the opposite %v, %v", f, b, x, e, y, e2)
		}
	}
	for _, n := range orders() {
		for range 20 {
			check(factor(n, many(r, below(n), fraction), divisors(r, n, fraction)), many(r, n, fraction))
			check(factor(n, many(r, below(n), anyFloat), divisors(r, n, anyFloat)), many(r, n, anyFloat))
		}
	}
	for range 2000 {
		n := 1 + r.Intn(4)
		check(factor(n, many(r, below(n), anyFloat), divisors(r, n, anyFloat)), many(r, n, anyFloat))
	}
}

// scaled is a list times 2^k.
func scaled(l []float64, k int) []float64 {
	out := slices.Clone(l)
	for i := range out {
		out[i] = math.Ldexp(out[i], k)
	}
	return out
}

// P13.4: with b times a power of two Solve tells so many times as much, to the bit.
func TestPowersOfTwo(t *testing.T) {
	r := rand.New(rand.NewSource(7))
	for range 200 {
		n := 1 + r.Intn(12)
		f, b := factor(n, many(r, below(n), fraction), divisors(r, n, fraction)), many(r, n, fraction)
		x, e := solve.Solve(f, b)
		if e != api.OK {
			t.Fatal(e)
		}
		for _, k := range []int{-300, -64, -20, -1, 1, 3, 20, 64, 300} {
			is(t, "Solve", solve.Solve, f, scaled(b, k), scaled(x, k))
		}
	}
}

// P13.3: what comes out of lower.Factor solves its matrix: what is left is small beside the numbers.
func TestFactorOfMatrix(t *testing.T) {
	r := rand.New(rand.NewSource(8))
	for _, n := range orders() {
		m := of(n, make([]float64, n*n)...)
		for i := range n {
			for j := range i {
				m.Data[i*n+j] = r.Float64() - 0.5
				m.Data[j*n+i] = m.Data[i*n+j]
			}
			m.Data[i*n+i] = float64(n)
		}
		f, e, _ := lower.Factor(m)
		if e != api.OK {
			t.Fatal(e)
		}
		b := many(r, n, fraction)
		asByWords(t, f, b)
		x, _ := solve.Solve(f, b)
		back, _ := matrix.Apply(m, x)
		for i := range back {
			if off := math.Abs(back[i] - b[i]); off > 0x1p-35 {
				t.Errorf("%d rows, at %d: off by %g", n, i, off)
			}
		}
	}
}

// roomy is a list with spare room, marked.
func roomy(l []float64) []float64 {
	return append(slices.Clone(l), 77, 77, 77)[:len(l)]
}

// untouched tells whether a roomy list is what it was, its spare room too.
func untouched(l, was []float64) bool {
	return sameList(l, was) && slices.Equal(l[len(l):len(l)+3], list(77, 77, 77))
}

// R3: what comes in stays as it was, its spare room too, whether it is solved or refused.
func TestListsAreLeft(t *testing.T) {
	r := rand.New(rand.NewSource(9))
	for _, n := range []int{0, 1, 2, 5, top} {
		for _, pivot := range list(1, 0, nan) {
			for spoilt := range 3 {
				l, d, b := many(r, below(n)+spoilt%2, anyFloat), slices.Repeat(list(pivot), n), many(r, n+spoilt/2, anyFloat)
				f, given := factor(n, roomy(l), roomy(d)), roomy(b)
				solve.Forward(f, given)
				solve.Back(f, given)
				solve.Solve(f, given)
				solve.Inverse(f)
				if !untouched(f.L, l) || !untouched(f.D, d) || !untouched(given, b) {
					t.Errorf("changed: %v and %v, was %v, %v and %v", f, given, l, d, b)
				}
			}
		}
	}
}

// scribble writes all over a list that was handed out, and its spare room.
func scribble(l []float64, x float64) {
	for i := range l[:cap(l)] {
		l[:cap(l)][i] = x
	}
}

// R3: lists that share memory are reckoned with as others are, and stay as they were.
func TestListsThatShare(t *testing.T) {
	room := list(2, 3, 1, 4, 5, 9, -7, 0.5, 3)
	was := slices.Clone(room)
	for _, c := range []struct {
		f api.Factor
		b []float64
	}{
		{factor(3, room[:3], room[:3]), room[:3]},
		{factor(3, room[:3], room[3:6]), room[:3]},
		{factor(3, room[:3], room[3:6]), room[3:6]},
		{factor(3, room[:3], room[1:4]), room[2:5]},
		{factor(3, room[2:5], room[:3]), room[1:4]},
		{factor(4, room[:6], room[2:6]), room[5:]},
		{factor(4, room[3:], room[:4]), room[:4]},
		{factor(2, room[1:2], room[:2]), room[:2]},
		{factor(1, nil, room[:1]), room[:1]},
	} {
		apart := factor(c.f.N, slices.Clone(c.f.L), slices.Clone(c.f.D))
		b := slices.Clone(c.b)
		is(t, "Forward", solve.Forward, c.f, c.b, forwardByWords(apart, b))
		is(t, "Back", solve.Back, c.f, c.b, backByWords(apart, b))
		is(t, "Solve", solve.Solve, c.f, c.b, solveByWords(apart, b))
		isInverse(t, c.f, inverseByWords(apart))
		for _, do := range []call{solve.Forward, solve.Back, solve.Solve} {
			got, _ := do(c.f, c.b)
			scribble(got, 1)
		}
		m, _ := solve.Inverse(c.f)
		scribble(m.Data, 1)
		if !slices.Equal(room, was) {
			t.Fatal("what came in has changed, or an answer is no new one")
		}
	}
}

// R3, R4: answers share no memory with one another, nor with what came in; what is done with one leaves the next as it is.
func TestAnswersAreApart(t *testing.T) {
	r := rand.New(rand.NewSource(10))
	for _, n := range []int{0, 1, 2, 3, 5, top} {
		f, b := factor(n, many(r, below(n), fraction), divisors(r, n, fraction)), many(r, n, fraction)
		l, d, given := slices.Clone(f.L), slices.Clone(f.D), slices.Clone(b)
		var lists [][]float64
		for range 2 {
			y, _ := solve.Forward(f, b)
			z, _ := solve.Back(f, b)
			x, _ := solve.Solve(f, b)
			m, _ := solve.Inverse(f)
			lists = append(lists, y, z, x, m.Data)
		}
		for i, l := range lists {
			scribble(l, float64(i))
		}
		for i, l := range lists {
			for _, x := range l[:cap(l)] {
				if x != float64(i) {
					t.Fatal("lists share memory")
				}
			}
		}
		if !sameList(f.L, l) || !sameList(f.D, d) || !sameList(b, given) {
			t.Errorf("%d rows: what came in has changed", n)
		}
		asByWords(t, f, b)
		isInverse(t, f, inverseByWords(f))
	}
}

// R3: what came in is not kept: an answer stays as it is when the lists change behind it.
func TestNotKept(t *testing.T) {
	f, b := factor(3, list(2, 3, 1), list(1, 4, 5)), list(14, 48, 77)
	x, _ := solve.Solve(f, b)
	y, _ := solve.Forward(f, b)
	z, _ := solve.Back(f, y)
	m, _ := solve.Inverse(f)
	data := slices.Clone(m.Data)
	for _, l := range [][]float64{f.L, f.D, b} {
		scribble(l, 6)
	}
	if !sameList(x, list(1, 2, 3)) || !sameList(z, list(1, 2, 3)) || !sameList(y, list(14, 20, 15)) || !sameList(m.Data, data) {
		t.Error(x, y, z, m)
	}
	asByWords(t, f, b)
}

// R7: each operation on floats stands in a conversion, so that no machine joins two of them.
func TestNotJoined(t *testing.T) {
	if build.Default.GOROOT == "" {
		out, _ := exec.Command("go", "env", "GOROOT").Output()
		build.Default.GOROOT = strings.TrimSpace(string(out))
	}
	set := token.NewFileSet()
	file, err := parser.ParseFile(set, "solve.go", nil, 0)
	if err != nil {
		t.Fatal(err)
	}
	info := &types.Info{Types: map[ast.Expr]types.TypeAndValue{}}
	config := types.Config{Importer: importer.ForCompiler(set, "source", nil)}
	if _, err := config.Check("girder/solve", set, []*ast.File{file}, info); err != nil {
		t.Fatal(err)
	}
	isFloat := func(e ast.Expr) bool {
		b, ok := info.Types[e].Type.Underlying().(*types.Basic)
		return ok && b.Info()&types.IsFloat != 0
	}
	alone := map[ast.Expr]bool{}
	found := 0
	ast.Inspect(file, func(n ast.Node) bool {
		switch x := n.(type) {
		case *ast.CallExpr:
			if f, ok := x.Fun.(*ast.Ident); ok && f.Name == "float64" {
				alone[x.Args[0]] = true
			}
		case *ast.BinaryExpr:
			if isFloat(x) {
				found++
				if !alone[x] {
					t.Error("an operation stands alone:", set.Position(x.Pos()))
				}
			}
		case *ast.AssignStmt:
			if x.Tok != token.ASSIGN && x.Tok != token.DEFINE && isFloat(x.Lhs[0]) {
				t.Error("an operation stands alone:", set.Position(x.Pos()))
			}
		}
		return true
	})
	if found < 3 {
		t.Error("only", found, "operations on floats were found")
	}
}
