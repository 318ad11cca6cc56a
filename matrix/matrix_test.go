package matrix_test

import (
	"go/ast"
	"go/parser"
	"go/token"
	"math"
	"math/big"
	"math/rand"
	"slices"
	"testing"

	"girder/api"
	"girder/matrix"
	"girder/round"
	"girder/vector"
)

const (
	least  = 0x1p-1074
	normal = 0x1p-1022
	most   = math.MaxFloat64
	u      = 0x1p-53
	top    = api.MaxOrder
)

var (
	minus0   = math.Copysign(0, -1)
	inf      = math.Inf(1)
	nan      = math.NaN()
	otherNaN = math.Float64frombits(0xFFF0000000000001)
)

// plus, less, times are one operation each, rounded by itself.
func plus(a, b float64) float64  { return round.Add(a, b, api.Nearest) }
func less(a, b float64) float64  { return round.Sub(a, b, api.Nearest) }
func times(a, b float64) float64 { return round.Mul(a, b, api.Nearest) }

func list(l ...float64) []float64 { return l }

func of(rows, cols int, l ...float64) api.Matrix {
	return api.Matrix{Rows: rows, Cols: cols, Data: l}
}

func row(l ...float64) api.Matrix { return of(1, len(l), l...) }

func column(l ...float64) api.Matrix { return of(len(l), 1, l...) }

// full is a matrix with one number everywhere.
func full(rows, cols int, x float64) api.Matrix {
	return of(rows, cols, slices.Repeat(list(x), rows*cols)...)
}

func same(a, b float64) bool {
	return math.Float64bits(a) == math.Float64bits(b) || a != a && b != b
}

func sameList(a, b []float64) bool { return slices.EqualFunc(a, b, same) }

func sameMatrix(a, b api.Matrix) bool {
	return a.Rows == b.Rows && a.Cols == b.Cols && sameList(a.Data, b.Data)
}

func none(m api.Matrix) bool { return sameMatrix(m, api.Matrix{}) }

func finite(x float64) bool { return !math.IsNaN(x) && !math.IsInf(x, 0) }

// pool is floats at all edges, of both signs.
func pool() []float64 {
	var out []float64
	for _, x := range list(0, least, 3*least, normal-least, normal, 0x1p-537, u, 0.1, 1, 1+2*u, 3, 0x1p53, 0x1p512, 0x1p970, 0x1p1023, most, inf) {
		out = append(out, x, -x)
	}
	return append(out, nan, otherNaN)
}

// anyFloat is a float, now of any size, now of about that of 1, now of a few.
func anyFloat(r *rand.Rand) float64 {
	switch r.Intn(4) {
	case 0:
		return float64(r.Intn(41) - 20)
	case 1:
		return math.Ldexp(r.Float64()-0.5, r.Intn(120)-60)
	case 2:
		return pool()[r.Intn(len(pool()))]
	}
	return math.Float64frombits(r.Uint64())
}

// fraction is a finite float of about the size of 1.
func fraction(r *rand.Rand) float64 { return math.Ldexp(r.Float64()-0.5, r.Intn(8)) }

func finiteFloat(r *rand.Rand) float64 {
	if x := anyFloat(r); finite(x) {
		return x
	}
	return minus0
}

func small(r *rand.Rand) float64 { return float64(r.Intn(2001) - 1000) }

func random(r *rand.Rand, rows, cols int, number func(r *rand.Rand) float64) api.Matrix {
	m := api.Matrix{Rows: rows, Cols: cols, Data: make([]float64, rows*cols)}
	for i := range m.Data {
		m.Data[i] = number(r)
	}
	return m
}

// shapes are counts of rows or columns, the edges among them.
func shapes() []int { return []int{0, 1, 2, 3, 7, top - 1, top} }

// wrong are matrices that are not right, in each way.
func wrong() []api.Matrix {
	return []api.Matrix{
		of(2, 2, 1, 2, 3),
		of(2, 2, 1, 2, 3, 4, 5),
		of(2, 2),
		of(0, 0, 1),
		of(0, 3, 1, 2, 3),
		of(3, 0, 1, 2, 3),
		of(1, 1),
		of(1, 1, 1, 2),
		of(1, 1, nan, 2),
		of(-1, 0),
		of(0, -1),
		of(-1, -1, 1),
		of(-1, -1),
		of(-2, -2, 1, 2, 3, 4),
		of(-1, 2, 1, 2),
		of(2, -1, 1, 2),
		full(top+1, 1, 1),
		full(1, top+1, 1),
		full(top+1, top+1, 1),
		of(top+1, 0),
		of(0, top+1),
		of(math.MaxInt, 0),
		of(0, math.MinInt),
		of(math.MaxInt, math.MaxInt),
		of(math.MaxInt, math.MaxInt, 1),
		of(math.MinInt, 2),
		of(math.MinInt, math.MinInt),
		of(1<<32, 1<<32),
		of(1<<62, 4),
	}
}

// rights are matrices that are right, at the edges.
func rights() []api.Matrix {
	out := []api.Matrix{
		{},
		{Data: make([]float64, 0, 3)},
		of(0, 5),
		of(5, 0),
		of(top, 0),
		of(0, top),
		of(1, 1, nan),
		of(1, 1, minus0),
		of(2, 2, 1, 2, 3, 4),
		full(top, top, inf),
		full(top, 1, 1),
		full(1, top, 1),
	}
	return out
}

// madeByWords is the matrix whose entries are told by the chapter's words.
func madeByWords(rows, cols int, at func(i, j int) float64) api.Matrix {
	m := api.Matrix{Rows: rows, Cols: cols}
	for i := range rows {
		for j := range cols {
			m.Data = append(m.Data, at(i, j))
		}
	}
	return m
}

func mulByWords(a, b api.Matrix) api.Matrix {
	return madeByWords(a.Rows, b.Cols, func(i, j int) float64 {
		sum := 0.0
		for k := range a.Cols {
			sum = plus(sum, times(a.Data[i*a.Cols+k], b.Data[k*b.Cols+j]))
		}
		return sum
	})
}

func overByWords(m api.Matrix) api.Matrix {
	return madeByWords(m.Cols, m.Rows, func(i, j int) float64 { return m.Data[j*m.Cols+i] })
}

// product and over are what the package tells of matrices that fit.
func product(t *testing.T, a, b api.Matrix) api.Matrix {
	t.Helper()
	m, e := matrix.Mul(a, b)
	if e != api.OK {
		t.Fatalf("Mul of %d by %d and %d by %d: %v", a.Rows, a.Cols, b.Rows, b.Cols, e)
	}
	return m
}

func over(t *testing.T, a api.Matrix) api.Matrix {
	t.Helper()
	m, e := matrix.Transpose(a)
	if e != api.OK {
		t.Fatalf("Transpose of %d by %d: %v", a.Rows, a.Cols, e)
	}
	return m
}

// P10.1: Right, at all edges.
func TestRight(t *testing.T) {
	for _, m := range rights() {
		if !matrix.Right(m) {
			t.Errorf("%d by %d with %d numbers isn't right", m.Rows, m.Cols, len(m.Data))
		}
	}
	for _, m := range wrong() {
		if matrix.Right(m) {
			t.Errorf("%d by %d with %d numbers is right", m.Rows, m.Cols, len(m.Data))
		}
	}
	for rows := -2; rows <= top+2; rows++ {
		for cols := -2; cols <= top+2; cols++ {
			for _, n := range []int{rows*cols - 1, rows * cols, rows*cols + 1} {
				if n < 0 {
					continue
				}
				want := rows >= 0 && cols >= 0 && rows <= top && cols <= top && n == rows*cols
				if got := matrix.Right(api.Matrix{Rows: rows, Cols: cols, Data: make([]float64, n)}); got != want {
					t.Errorf("%d by %d with %d numbers: %v", rows, cols, n, got)
				}
			}
		}
	}
}

// P10.1: example 1, each shape that may be and those that may not.
func TestMake(t *testing.T) {
	counts := []int{math.MinInt, -49, -2, top + 1, top + 2, 1 << 32, math.MaxInt}
	for n := -1; n <= top; n++ {
		counts = append(counts, n)
	}
	for _, rows := range counts {
		for _, cols := range counts {
			m, e := matrix.Make(rows, cols)
			if rows < 0 || cols < 0 || rows > top || cols > top {
				if e != api.ErrArg || !none(m) {
					t.Errorf("Make(%d, %d): %v, %v", rows, cols, m, e)
				}
			} else if e != api.OK || !sameMatrix(m, full(rows, cols, 0)) || !matrix.Right(m) {
				t.Errorf("Make(%d, %d): %v, %v", rows, cols, m, e)
			}
		}
	}
}

// P10.1: example 1, each order that may be and those that may not.
func TestIdentity(t *testing.T) {
	for _, n := range []int{math.MinInt, -48, -1, top + 1, 1 << 32, math.MaxInt} {
		if m, e := matrix.Identity(n); e != api.ErrArg || !none(m) {
			t.Errorf("Identity(%d): %v, %v", n, m, e)
		}
	}
	for n := range top + 1 {
		want := full(n, n, 0)
		for i := range n {
			want.Data[i*n+i] = 1
		}
		if m, e := matrix.Identity(n); e != api.OK || !sameMatrix(m, want) {
			t.Errorf("Identity(%d): %v, %v", n, m, e)
		}
	}
	if m, e := matrix.Identity(2); e != api.OK || !sameMatrix(m, of(2, 2, 1, 0, 0, 1)) {
		t.Errorf("Identity(2): %v, %v", m, e)
	}
}

// P10.2: shapes, noughts, NaN, infinities, matrices that are not right.
func TestSame(t *testing.T) {
	for _, c := range []struct {
		a, b api.Matrix
		want bool
	}{
		{api.Matrix{}, api.Matrix{}, true},
		{api.Matrix{}, api.Matrix{Data: list()}, true},
		{of(2, 0), of(2, 0), true},
		{of(2, 0), of(0, 2), false},
		{of(2, 0), of(3, 0), false},
		{of(0, 2), of(0, 3), false},
		{of(1, 4, 1, 2, 3, 4), of(4, 1, 1, 2, 3, 4), false},
		{of(2, 2, 1, 2, 3, 4), of(1, 4, 1, 2, 3, 4), false},
		{of(2, 2, 1, 2, 3, 4), of(2, 2, 1, 2, 3, 4), true},
		{of(2, 2, 1, 2, 3, 4), of(2, 2, 1, 2, 3, 5), false},
		{of(2, 2, 1, 2, 3, 4), of(2, 2, 1, 3, 2, 4), false},
		{row(0), row(minus0), false},
		{row(minus0), row(minus0), true},
		{row(nan), row(otherNaN), true},
		{row(nan), row(inf), false},
		{row(inf), row(-inf), false},
		{row(inf), row(inf), true},
		{of(2, 2, 1, 2, 3), of(2, 2, 1, 2, 3), true},
		{of(2, 2, 1, 2, 3), of(2, 2, 1, 2, 3, 4), false},
		{of(2, 2, 1, 2, 3, 4), of(2, 2, 1, 2, 3), false},
		{of(-1, 7, nan), of(-1, 7, otherNaN), true},
		{of(-1, 7, 1), of(-1, 8, 1), false},
		{of(-1, 7, 1), of(-2, 7, 1), false},
		{of(math.MaxInt, math.MinInt), of(math.MaxInt, math.MinInt), true},
		{of(0, 0, 1), of(0, 0), false},
	} {
		if got := matrix.Same(c.a, c.b); got != c.want {
			t.Errorf("Same(%v, %v): %v", c.a, c.b, got)
		}
		if got := matrix.Same(c.b, c.a); got != c.want {
			t.Errorf("Same(%v, %v): %v", c.b, c.a, got)
		}
	}
	for _, x := range pool() {
		for _, y := range pool() {
			if got := matrix.Same(of(2, 1, 1, x), of(2, 1, 1, y)); got != same(x, y) {
				t.Errorf("Same of %x and %x: %v", x, y, got)
			}
		}
	}
	long := slices.Repeat(list(1), 2*api.MaxVector)
	if !matrix.Same(of(3, 3, long...), of(3, 3, slices.Clone(long)...)) || matrix.Same(of(3, 3, long...), of(3, 3, long[1:]...)) {
		t.Error("Same of many numbers")
	}
}

// P10.2: example 3, shapes, noughts, NaN, infinities, each entry, matrices that are not right.
func TestSymmetric(t *testing.T) {
	for _, c := range []struct {
		m    api.Matrix
		want bool
	}{
		{of(2, 2, 1, 0, minus0, 1), false},
		{of(2, 2, 1, 0, 0, 1), true},
		{of(2, 2, 1, minus0, minus0, 1), true},
		{of(2, 2, 1, 5, 5, 2), true},
		{of(2, 2, 1, 5, -5, 2), false},
		{of(2, 2, 1, nan, otherNaN, 1), true},
		{of(2, 2, 1, nan, inf, 1), false},
		{of(2, 2, 1, inf, inf, 1), true},
		{of(2, 2, 1, inf, -inf, 1), false},
		{of(2, 2, nan, 1, 1, 1), true},
		{of(2, 2, 1, 1, 1+2*u, 1), false},
		{api.Matrix{}, true},
		{row(3), true},
		{row(nan), true},
		{of(1, 2, 1, 1), false},
		{of(2, 1, 1, 1), false},
		{of(0, 3), false},
		{of(3, 0), false},
		{of(2, 3, 1, 1, 1, 1, 1, 1), false},
		{of(1, 4, 1, 2, 2, 1), false},
		{of(3, 3, 1, 2, 3, 2, 4, 5, 3, 5, 6), true},
		{of(3, 3, 1, 2, 3, 2, 4, 5, 4, 5, 6), false},
		{of(3, 3, 1, 2, 3, 2, 4, 5, 3, 6, 6), false},
	} {
		if got := matrix.Symmetric(c.m); got != c.want {
			t.Errorf("Symmetric(%v): %v", c.m, got)
		}
	}
	for _, m := range wrong() {
		if matrix.Symmetric(m) {
			t.Errorf("%d by %d with %d numbers is symmetric", m.Rows, m.Cols, len(m.Data))
		}
	}
	m := full(top, top, 1)
	for i := range top {
		for j := range top {
			m.Data[i*top+j] = -1
			if got := matrix.Symmetric(m); got != (i == j) {
				t.Errorf("with another (%d, %d): %v", i, j, got)
			}
			m.Data[i*top+j] = 1
		}
	}
}

// P10.3: example 3, no rows, no columns, one row, one entry.
func TestTransposeExamples(t *testing.T) {
	for _, c := range []struct{ m, want api.Matrix }{
		{of(2, 3, 1, 2, 3, 4, 5, 6), of(3, 2, 1, 4, 2, 5, 3, 6)},
		{of(0, 3), of(3, 0)},
		{of(3, 0), of(0, 3)},
		{api.Matrix{}, api.Matrix{}},
		{row(7), row(7)},
		{row(1, 2, 3), column(1, 2, 3)},
		{column(1, 2, 3), row(1, 2, 3)},
		{of(2, 2, minus0, inf, nan, least), of(2, 2, minus0, nan, inf, least)},
	} {
		if m, e := matrix.Transpose(c.m); e != api.OK || !sameMatrix(m, c.want) {
			t.Errorf("Transpose of %v: %v, %v, want %v", c.m, m, e, c.want)
		}
	}
}

// P10.3, P10.6: each entry at each shape; transposed twice a matrix is what it was.
func TestTransposeToTheBit(t *testing.T) {
	r := rand.New(rand.NewSource(1))
	for _, rows := range shapes() {
		for _, cols := range shapes() {
			m := random(r, rows, cols, anyFloat)
			once := over(t, m)
			if !sameMatrix(once, overByWords(m)) {
				t.Errorf("Transpose of %d by %d", rows, cols)
			}
			if twice := over(t, once); !sameMatrix(twice, m) {
				t.Errorf("transposed twice: %d by %d", rows, cols)
			}
		}
	}
}

// P10.3: example 3, noughts of both signs, infinities, NaN, what is too great, what is subnormal.
func TestSubExamples(t *testing.T) {
	for _, c := range []struct{ a, b, want api.Matrix }{
		{row(1), row(1), row(0)},
		{api.Matrix{}, api.Matrix{}, api.Matrix{}},
		{of(0, 4), of(0, 4), of(0, 4)},
		{of(4, 0), of(4, 0), of(4, 0)},
		{of(2, 2, 5, 6, 7, 8), of(2, 2, 1, 3, 5, 9), of(2, 2, 4, 3, 2, -1)},
		{row(0, 0, minus0, minus0), row(0, minus0, 0, minus0), row(0, 0, minus0, 0)},
		{row(inf, inf, -inf), row(1, inf, inf), row(inf, nan, -inf)},
		{row(nan, 1), row(1, otherNaN), row(nan, nan)},
		{row(most, -most, most), row(-most, most, most), row(inf, -inf, 0)},
		{column(least, normal, normal), column(least, least, -least), column(0, normal-least, normal+least)},
		{column(1, 1), column(u/2, u), column(1, 1-u)},
	} {
		if m, e := matrix.Sub(c.a, c.b); e != api.OK || !sameMatrix(m, c.want) {
			t.Errorf("%v less %v: %v, %v, want %v", c.a, c.b, m, e, c.want)
		}
	}
}

// P10.3: at all pairs of edges, at each shape.
func TestSubToTheBit(t *testing.T) {
	check := func(a, b api.Matrix) {
		t.Helper()
		got, e := matrix.Sub(a, b)
		want := madeByWords(a.Rows, a.Cols, func(i, j int) float64 {
			return less(a.Data[i*a.Cols+j], b.Data[i*a.Cols+j])
		})
		if e != api.OK || !sameMatrix(got, want) {
			t.Errorf("%v less %v: %v, %v, want %v", a, b, got, e, want)
		}
	}
	for _, x := range pool() {
		check(full(1, len(pool()), x), row(pool()...))
	}
	r := rand.New(rand.NewSource(2))
	for _, rows := range shapes() {
		for _, cols := range shapes() {
			check(random(r, rows, cols, anyFloat), random(r, rows, cols, anyFloat))
		}
	}
}

// P10.4: example 2, the order, products rounded by themselves, the first sum being +0, infinities and NaN.
func TestMulExamples(t *testing.T) {
	for _, c := range []struct{ a, b, want api.Matrix }{
		{of(2, 2, 1, 2, 3, 4), of(2, 2, 5, 6, 7, 8), of(2, 2, 19, 22, 43, 50)},
		{row(0x1p53, 1, -0x1p53), column(1, 1, 1), row(0)},
		{row(0x1p53, -0x1p53, 1), column(1, 1, 1), row(1)},
		{row(minus0), row(1), row(0)},
		{row(0), row(inf), row(nan)},
		{row(inf), row(minus0), row(nan)},
		{row(3), row(-5), row(-15)},
		{column(1, 2), row(3, 4, 5), of(2, 3, 3, 4, 5, 6, 8, 10)},
		{row(1, 2), column(3, 4), row(11)},
		{row(1, 2), of(2, 3, 1, 2, 3, 4, 5, 6), row(9, 12, 15)},
		{of(3, 0), of(0, 2), full(3, 2, 0)},
		{of(top, 0), of(0, top), full(top, top, 0)},
		{of(0, 2), of(2, 3, 1, 2, 3, 4, 5, 6), of(0, 3)},
		{of(3, 2, 1, 2, 3, 4, 5, 6), of(2, 0), of(3, 0)},
		{of(0, 0), of(0, 0), of(0, 0)},
		{of(0, 0), of(0, 3), of(0, 3)},
		{of(3, 0), of(0, 0), of(3, 0)},
		{row(1, u, u), column(1, 1, 1), row(1)},
		{row(u, u, 1), column(1, 1, 1), row(1 + 2*u)},
		{row(-1, 1+2*u), column(1+4*u, 1+2*u), row(0)}, // joined it would be 2^-104
		{row(1+2*u, -1), column(1+2*u, 1+4*u), row(0)},
		{row(most, most), column(2, -2), row(nan)},
		{row(most, most, -most), column(1, 1, 1), row(inf)},
		{row(-most, -most), column(1, 1), row(-inf)},
		{row(inf, inf), column(1, -1), row(nan)},
		{row(1, nan), column(1, 1), row(nan)},
		{row(0, 1), column(otherNaN, 1), row(nan)},
		{row(least, least), column(0.5, 0.5), row(0)},
		{row(least, least), column(0.75, 0.75), row(2 * least)},
		{row(-least), row(0.5), row(0)},
		{of(2, 2, 1, nan, 3, 4), of(2, 2, 5, 6, 7, 8), of(2, 2, nan, nan, 43, 50)},
	} {
		if m, e := matrix.Mul(c.a, c.b); e != api.OK || !sameMatrix(m, c.want) {
			t.Errorf("%v times %v: %v, %v, want %v", c.a, c.b, m, e, c.want)
		}
	}
}

// fitting hands on pairs of matrices whose shapes fit a product.
func fitting(r *rand.Rand, number func(r *rand.Rand) float64, check func(a, b api.Matrix)) {
	for _, rows := range shapes() {
		for _, both := range shapes() {
			for _, cols := range shapes() {
				if rows*both*cols <= 20*top {
					check(random(r, rows, both, number), random(r, both, cols, number))
				}
			}
		}
	}
	check(random(r, top, top, number), random(r, top, top, number))
}

// P10.4, P10.6: each operation as the chapter tells it; the product of the two transposed, the other way round, is the transposed one.
func TestMulToTheBit(t *testing.T) {
	check := func(a, b api.Matrix) {
		t.Helper()
		want := mulByWords(a, b)
		if got := product(t, a, b); !sameMatrix(got, want) {
			t.Errorf("%v times %v: %v, want %v", a, b, got, want)
		}
		if got := product(t, over(t, b), over(t, a)); !sameMatrix(got, overByWords(want)) {
			t.Errorf("transposed, %v times %v: %v", a, b, got)
		}
	}
	for _, x := range pool() {
		check(full(1, 1, x), row(pool()...))
		for _, y := range pool() {
			check(row(1, x), column(-1, y))
		}
	}
	r := rand.New(rand.NewSource(3))
	fitting(r, anyFloat, check)
	for range 10 {
		fitting(r, fraction, check)
	}
}

// P10.4: example 3, no rows, no columns.
func TestApplyExamples(t *testing.T) {
	for _, c := range []struct {
		m       api.Matrix
		x, want []float64
	}{
		{of(2, 2, 1, 2, 3, 4), list(5, 6), list(17, 39)},
		{of(2, 3, 1, 2, 3, 4, 5, 6), list(1, 1, 1), list(6, 15)},
		{of(3, 0), nil, list(0, 0, 0)},
		{of(3, 0), list(), list(0, 0, 0)},
		{of(0, 2), list(1, 2), nil},
		{of(0, 0), nil, nil},
		{row(minus0), list(1), list(0)},
		{row(0x1p53, 1, -0x1p53), list(1, 1, 1), list(0)},
		{row(-1, 1+2*u), list(1+4*u, 1+2*u), list(0)},
		{column(1, 2, -3), list(inf), list(inf, inf, -inf)},
		{row(0), list(inf), list(nan)},
		{row(most, most), list(1, 1), list(inf)},
		{row(1, 2), list(nan, 1), list(nan)},
	} {
		if got, e := matrix.Apply(c.m, c.x); e != api.OK || !sameList(got, c.want) {
			t.Errorf("Apply(%v, %v): %v, %v, want %v", c.m, c.x, got, e, c.want)
		}
	}
}

// P10.4, P10.6: each operation as the chapter tells it; it is Mul with a matrix of one column.
func TestApplyToTheBit(t *testing.T) {
	check := func(m api.Matrix, x []float64) {
		t.Helper()
		want := mulByWords(m, column(x...))
		if got, e := matrix.Apply(m, x); e != api.OK || !sameList(got, want.Data) {
			t.Errorf("Apply(%v, %v): %v, %v, want %v", m, x, got, e, want.Data)
		}
		if got := product(t, m, column(x...)); !sameMatrix(got, want) {
			t.Errorf("%v times a column %v: %v, want %v", m, x, got, want.Data)
		}
	}
	for _, x := range pool() {
		check(column(pool()...), list(x))
	}
	r := rand.New(rand.NewSource(4))
	for _, rows := range shapes() {
		for _, cols := range shapes() {
			check(random(r, rows, cols, anyFloat), random(r, 1, cols, anyFloat).Data)
			check(random(r, rows, cols, fraction), random(r, 1, cols, fraction).Data)
		}
	}
}

// P10.5: example 3, noughts, sizes, sums rounded up, what is too great, what is subnormal, what is not finite.
func TestNormExamples(t *testing.T) {
	for _, c := range []struct {
		m    api.Matrix
		want float64
		e    api.Errno
	}{
		{of(2, 2, 1, -2, 3, -4), 7, api.OK},
		{of(2, 2, 3, -4, 1, -2), 7, api.OK},
		{row(0x1p53, 1), 0x1p53 + 2, api.OK},
		{row(1, 0x1p53), 0x1p53 + 2, api.OK},
		{row(nan), 0, api.ErrNumber},
		{row(inf), 0, api.ErrNumber},
		{row(-inf), 0, api.ErrNumber},
		{of(2, 2, 1, 2, 3, otherNaN), 0, api.ErrNumber},
		{of(2, 2, -inf, 2, 3, 4), 0, api.ErrNumber},
		{of(2, 2, most, most, 3, nan), 0, api.ErrNumber},
		{api.Matrix{}, 0, api.OK},
		{of(0, 3), 0, api.OK},
		{of(3, 0), 0, api.OK},
		{row(minus0), 0, api.OK},
		{of(2, 2, minus0, minus0, 0, minus0), 0, api.OK},
		{row(-5), 5, api.OK},
		{column(1, -3, 2), 3, api.OK},
		{row(1, -3, 2), 6, api.OK},
		{of(2, 3, 1, 1, 1, 2, 0, 0), 3, api.OK},
		{of(3, 2, 2, 1, 2, 0, 2, 0), 3, api.OK}, // by columns it would be 6
		{of(2, 3, 1, 1, 1, 1, 1, 1), 3, api.OK},
		{of(3, 2, 1, 1, 1, 1, 1, 1), 2, api.OK},
		{row(-least, least), 2 * least, api.OK},
		{row(1, least, least), 1 + 4*u, api.OK},
		{row(most), most, api.OK},
		{row(most, least), inf, api.OK},
		{of(2, 2, most, most, 1, 1), inf, api.OK},
		{of(2, 2, 1, 1, -most, -most), inf, api.OK},
	} {
		if got, e := matrix.Norm(c.m); !same(got, c.want) || e != c.e {
			t.Errorf("Norm of %v: %x, %v, want %x, %v", c.m, got, e, c.want, c.e)
		}
	}
}

// P10.5: the greatest of the rows' norms, whichever row it is; a number that is not finite, wherever it stands.
func TestNormOfRows(t *testing.T) {
	r := rand.New(rand.NewSource(5))
	for n := range 400 {
		number := fraction
		if n%2 == 0 {
			number = finiteFloat
		}
		m := random(r, 1+r.Intn(top), r.Intn(top+1), number)
		want := 0.0
		for i := range m.Rows {
			want = math.Max(want, vector.Norm(m.Data[i*m.Cols:(i+1)*m.Cols]))
		}
		if got, e := matrix.Norm(m); e != api.OK || !same(got, want) {
			t.Errorf("Norm of %d by %d: %x, %v, want %x", m.Rows, m.Cols, got, e, want)
		}
	}
	m := full(top, top, -2)
	for i := range m.Data {
		for _, x := range list(nan, inf, -inf, otherNaN) {
			m.Data[i] = x
			if got, e := matrix.Norm(m); e != api.ErrNumber || !same(got, 0) {
				t.Errorf("Norm with %x at %d: %x, %v", x, i, got, e)
			}
		}
		m.Data[i] = 4
		if got, e := matrix.Norm(m); e != api.OK || got != 2*top+2 {
			t.Errorf("Norm with 4 at %d: %x, %v", i, got, e)
		}
		m.Data[i] = -2
	}
}

// P10.3 to P10.5: matrices that are not right are refused, with nothing beside it; ErrShape ahead of ErrNumber.
func TestWrongMatrices(t *testing.T) {
	for _, m := range wrong() {
		for _, other := range append(rights(), wrong()...) {
			for _, c := range [][2]api.Matrix{{m, other}, {other, m}} {
				if got, e := matrix.Sub(c[0], c[1]); e != api.ErrShape || !none(got) {
					t.Errorf("Sub of %v and %v: %v, %v", c[0], c[1], got, e)
				}
				if got, e := matrix.Mul(c[0], c[1]); e != api.ErrShape || !none(got) {
					t.Errorf("Mul of %v and %v: %v, %v", c[0], c[1], got, e)
				}
			}
		}
		if got, e := matrix.Transpose(m); e != api.ErrShape || !none(got) {
			t.Errorf("Transpose of %v: %v, %v", m, got, e)
		}
		for _, n := range []int{0, 1, 2, 3, top, top + 1} {
			if got, e := matrix.Apply(m, make([]float64, n)); e != api.ErrShape || len(got) != 0 {
				t.Errorf("Apply of %v to %d numbers: %v, %v", m, n, got, e)
			}
		}
		if got, e := matrix.Norm(m); e != api.ErrShape || !same(got, 0) {
			t.Errorf("Norm of %v: %v, %v", m, got, e)
		}
	}
	if got, e := matrix.Norm(of(2, 2, nan, 1, 1)); e != api.ErrShape || !same(got, 0) {
		t.Errorf("Norm of what is neither right nor finite: %v, %v", got, e)
	}
}

// P10.3, P10.4: right matrices whose shapes do not fit, those of no numbers among them.
func TestShapesThatDoNotFit(t *testing.T) {
	for _, rows := range shapes() {
		for _, cols := range shapes() {
			a := full(rows, cols, 1)
			for _, otherRows := range shapes() {
				for _, otherCols := range shapes() {
					b := full(otherRows, otherCols, 1)
					fits := rows == otherRows && cols == otherCols
					if got, e := matrix.Sub(a, b); (e == api.OK) != fits || !fits && (e != api.ErrShape || !none(got)) {
						t.Errorf("Sub of %d by %d and %d by %d: %v", rows, cols, otherRows, otherCols, e)
					}
					if cols == otherRows {
						continue
					}
					if got, e := matrix.Mul(a, b); e != api.ErrShape || !none(got) {
						t.Errorf("Mul of %d by %d and %d by %d: %v", rows, cols, otherRows, otherCols, e)
					}
				}
			}
			for _, n := range []int{cols - 1, cols + 1, cols + 2, 2 * top} {
				if n < 0 || n == cols {
					continue
				}
				if got, e := matrix.Apply(a, make([]float64, n)); e != api.ErrShape || len(got) != 0 {
					t.Errorf("Apply of %d by %d to %d numbers: %v, %v", rows, cols, n, got, e)
				}
			}
		}
	}
}

// exactProduct is the product of matrices of whole numbers, not rounded.
func exactProduct(a, b [][]*big.Int) [][]*big.Int {
	out := make([][]*big.Int, len(a))
	for i := range a {
		for j := range b[0] {
			sum := new(big.Int)
			for k := range b {
				sum.Add(sum, new(big.Int).Mul(a[i][k], b[k][j]))
			}
			out[i] = append(out[i], sum)
		}
	}
	return out
}

func wholes(m api.Matrix) [][]*big.Int {
	out := make([][]*big.Int, m.Rows)
	for i := range m.Rows {
		for j := range m.Cols {
			out[i] = append(out[i], big.NewInt(int64(m.Data[i*m.Cols+j])))
		}
	}
	return out
}

// P10.6: of small whole numbers all is exact, and products may be grouped in either way.
func TestSmallWholesAreExact(t *testing.T) {
	r := rand.New(rand.NewSource(6))
	for range 60 {
		n := func() int { return 1 + r.Intn(top) }
		a := random(r, n(), n(), small)
		b := random(r, a.Cols, n(), small)
		c := random(r, b.Cols, n(), small)
		left, right := product(t, product(t, a, b), c), product(t, a, product(t, b, c))
		if !sameMatrix(left, right) {
			t.Errorf("grouped otherwise: %v, %v", left, right)
		}
		exact := exactProduct(exactProduct(wholes(a), wholes(b)), wholes(c))
		for i, row := range wholes(left) {
			for j, got := range row {
				if got.Cmp(exact[i][j]) != 0 {
					t.Errorf("at %d, %d: %v, want %v", i, j, got, exact[i][j])
				}
			}
		}
	}
}

// P10.6: a matrix of finite numbers times the identity, on either side, has equal numbers.
func TestTimesIdentity(t *testing.T) {
	equal := func(a, b api.Matrix) bool {
		return a.Rows == b.Rows && a.Cols == b.Cols && slices.Equal(a.Data, b.Data)
	}
	r := rand.New(rand.NewSource(7))
	for _, rows := range shapes() {
		for _, cols := range shapes() {
			m := random(r, rows, cols, finiteFloat)
			left, _ := matrix.Identity(rows)
			right, _ := matrix.Identity(cols)
			if got := product(t, left, m); !equal(got, m) {
				t.Errorf("identity times %v: %v", m, got)
			}
			if got := product(t, m, right); !equal(got, m) {
				t.Errorf("%v times identity: %v", m, got)
			}
		}
	}
}

// P10.6: a matrix less itself is +0 where it is finite.
func TestLessItself(t *testing.T) {
	m := random(rand.New(rand.NewSource(8)), top, top, finiteFloat)
	if got, e := matrix.Sub(m, m); e != api.OK || !sameMatrix(got, full(top, top, 0)) {
		t.Errorf("%v, %v", got, e)
	}
}

// scribble writes all over a list that was handed out, and its spare room.
func scribble(l []float64) {
	for i := range l[:cap(l)] {
		l[:cap(l)][i] = 99
	}
}

// calls are all calls that hand out a list, each told of two square matrices.
var calls = []struct {
	name string
	call func(a, b api.Matrix) []float64
}{
	{"Make", func(a, b api.Matrix) []float64 { m, _ := matrix.Make(a.Rows, b.Cols); return m.Data }},
	{"Identity", func(a, b api.Matrix) []float64 { m, _ := matrix.Identity(a.Rows); return m.Data }},
	{"Transpose", func(a, b api.Matrix) []float64 { m, _ := matrix.Transpose(a); return m.Data }},
	{"Sub", func(a, b api.Matrix) []float64 { m, _ := matrix.Sub(a, b); return m.Data }},
	{"Mul", func(a, b api.Matrix) []float64 { m, _ := matrix.Mul(a, b); return m.Data }},
	{"Apply", func(a, b api.Matrix) []float64 { x, _ := matrix.Apply(a, b.Data[:b.Cols]); return x }},
}

// R3: matrices are left as they are, their spare room too, even where they share memory; answers are new.
func TestMatricesAreLeft(t *testing.T) {
	before := list(1, -2, 3, -4, 5, 6, 7, -8)
	room := slices.Clone(before)
	for _, c := range [][2][]float64{{room[:4], room[:4]}, {room[:4], room[1:5]}, {room[3:7], room[:4]}, {room[4:], room[:4]}} {
		a, b := of(2, 2, c[0]...), of(2, 2, c[1]...)
		apart, other := of(2, 2, slices.Clone(c[0])...), of(2, 2, slices.Clone(c[1])...)
		for _, f := range calls {
			got, want := f.call(a, b), f.call(apart, other)
			if len(got) == 0 || !sameList(got, want) {
				t.Errorf("%s of %v and %v: %v, want %v", f.name, a, b, got, want)
			}
			scribble(got)
		}
		matrix.Right(a)
		matrix.Same(a, b)
		matrix.Symmetric(a)
		matrix.Norm(a)
		if !slices.Equal(room, before) {
			t.Fatalf("changed: %x", room)
		}
	}
}

// R3: a matrix of one entry, of one row or column, of none is handed out anew, too.
func TestSmallOnesAreNew(t *testing.T) {
	for _, m := range []api.Matrix{of(1, 1, 5), of(1, 3, 1, 2, 3), of(3, 1, 1, 2, 3), {Rows: 0, Cols: 2, Data: list(1, 2, 3)[:0]}} {
		before := slices.Clone(m.Data[:cap(m.Data)])
		turned, _ := matrix.Transpose(m)
		scribble(turned.Data)
		noughts, _ := matrix.Make(m.Rows, m.Cols)
		rest, _ := matrix.Sub(m, noughts)
		scribble(rest.Data)
		one, _ := matrix.Identity(m.Cols)
		times, _ := matrix.Mul(m, one)
		scribble(times.Data)
		applied, _ := matrix.Apply(one, m.Data)
		scribble(applied)
		if !slices.Equal(m.Data[:cap(m.Data)], before) {
			t.Errorf("changed: %v", m.Data[:cap(m.Data)])
		}
	}
}

// R3, R4: no two answers share memory, and what is done with one leaves the next as it is.
func TestAnswersAreApart(t *testing.T) {
	a, b := of(2, 2, 1, 2, 3, 4), of(2, 2, 5, 6, 7, 8)
	for _, f := range calls {
		first := f.call(a, b)
		want := slices.Clone(first)
		second := f.call(a, b)
		scribble(first)
		if third := f.call(a, b); !sameList(second, want) || !sameList(third, want) {
			t.Errorf("%s: %v, %v, want %v", f.name, second, third, want)
		}
	}
}

// R7: each operation on floats stands in a conversion, so that no machine joins two of them; functions that answer a whole number count places.
func TestNotJoined(t *testing.T) {
	file, err := parser.ParseFile(token.NewFileSet(), "matrix.go", nil, 0)
	if err != nil {
		t.Fatal(err)
	}
	alone := map[ast.Expr]bool{}
	ast.Inspect(file, func(n ast.Node) bool {
		switch x := n.(type) {
		case *ast.FuncDecl:
			if r := x.Type.Results; r != nil && len(r.List) == 1 {
				id, ok := r.List[0].Type.(*ast.Ident)
				return !ok || id.Name != "int"
			}
		case *ast.CallExpr:
			if f, ok := x.Fun.(*ast.Ident); ok && f.Name == "float64" {
				alone[x.Args[0]] = true
			}
		case *ast.BinaryExpr:
			if (x.Op == token.ADD || x.Op == token.SUB || x.Op == token.MUL) && !alone[x] {
				t.Errorf("an operation stands alone at byte %d", x.Pos())
			}
		case *ast.AssignStmt:
			if x.Tok != token.ASSIGN && x.Tok != token.DEFINE {
				t.Errorf("an operation stands alone at byte %d", x.Pos())
			}
		}
		return true
	})
}
