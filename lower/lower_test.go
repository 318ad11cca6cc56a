package lower_test

import (
	"go/ast"
	"go/build"
	"go/importer"
	"go/parser"
	"go/token"
	"go/types"
	"math"
	"math/big"
	"math/rand"
	"os/exec"
	"slices"
	"strings"
	"testing"

	"girder/api"
	"girder/lower"
	"girder/matrix"
	"girder/round"
)

const (
	least  = 0x1p-1074
	normal = 0x1p-1022
	most   = math.MaxFloat64
	u      = 0x1p-53
	top    = api.MaxOrder
)

var (
	minus0   = math.Copysign(0, -1)
	inf      = math.Inf(1)
	nan      = math.NaN()
	otherNaN = math.Float64frombits(0xFFF0000000000001)
)

// plus, less, times, over are one operation each, rounded by itself.
func plus(a, b float64) float64  { return round.Add(a, b, api.Nearest) }
func less(a, b float64) float64  { return round.Sub(a, b, api.Nearest) }
func times(a, b float64) float64 { return round.Mul(a, b, api.Nearest) }
func over(a, b float64) float64  { return round.Div(a, b, api.Nearest) }

func list(l ...float64) []float64 { return l }

// of is a matrix of n rows and columns.
func of(n int, l ...float64) api.Matrix { return api.Matrix{Rows: n, Cols: n, Data: l} }

func factor(n int, l, d []float64) api.Factor { return api.Factor{N: n, L: l, D: d} }

// below is how many numbers stand below the diagonal of n rows.
func below(n int) int { return n * (n - 1) / 2 }

func same(a, b float64) bool {
	return math.Float64bits(a) == math.Float64bits(b) || a != a && b != b
}

func sameList(a, b []float64) bool { return slices.EqualFunc(a, b, same) }

func sameMatrix(a, b api.Matrix) bool {
	return a.Rows == b.Rows && a.Cols == b.Cols && sameList(a.Data, b.Data)
}

func sameFactor(a, b api.Factor) bool {
	return a.N == b.N && sameList(a.L, b.L) && sameList(a.D, b.D)
}

func finite(x float64) bool { return !math.IsNaN(x) && !math.IsInf(x, 0) }

// pool is floats at all edges, of both signs.
func pool() []float64 {
	var out []float64
	for _, x := range list(0, least, 3*least, normal-least, normal, 0x1p-537, u, 0.1, 1, 1+2*u, 3, 0x1p53, 0x1p512, 0x1p970, 0x1p1023, most, inf) {
		out = append(out, x, -x)
	}
	return append(out, nan, otherNaN)
}

// anyFloat is a float, now of any size, now of about that of 1, now of a few.
func anyFloat(r *rand.Rand) float64 {
	switch r.Intn(4) {
	case 0:
		return float64(r.Intn(41) - 20)
	case 1:
		return math.Ldexp(r.Float64()-0.5, r.Intn(120)-60)
	case 2:
		return pool()[r.Intn(len(pool()))]
	}
	return math.Float64frombits(r.Uint64())
}

func finiteFloat(r *rand.Rand) float64 {
	if x := anyFloat(r); finite(x) {
		return x
	}
	return minus0
}

// fraction is a finite float of about the size of 1.
func fraction(r *rand.Rand) float64 { return math.Ldexp(r.Float64()-0.5, r.Intn(8)) }

func many(r *rand.Rand, n int, number func(r *rand.Rand) float64) []float64 {
	out := make([]float64, n)
	for i := range out {
		out[i] = number(r)
	}
	return out
}

// mirrored is a symmetric matrix whose entries (i, j), j not above i, are told by at.
func mirrored(n int, at func(i, j int) float64) api.Matrix {
	m := of(n, make([]float64, n*n)...)
	for i := range n {
		for j := range i + 1 {
			m.Data[i*n+j] = at(i, j)
			m.Data[j*n+i] = m.Data[i*n+j]
		}
	}
	return m
}

// anySymmetric is a symmetric matrix of any numbers of that kind.
func anySymmetric(r *rand.Rand, n int, number func(r *rand.Rand) float64) api.Matrix {
	return mirrored(n, func(i, j int) float64 { return number(r) })
}

// steep is a symmetric matrix whose pivots are above 0 as a rule, some entries noughts of either sign, row i and column i of the size 2^size(i).
func steep(r *rand.Rand, n int, size func(i int) int) api.Matrix {
	return mirrored(n, func(i, j int) float64 {
		x := r.Float64() - 0.5
		switch {
		case i == j:
			x = float64(n)/4 + r.Float64()
		case r.Intn(12) == 0:
			x = 0
		case r.Intn(12) == 0:
			x = minus0
		}
		return max(-most, min(most, math.Ldexp(x, size(i)+size(j))))
	})
}

// flat is steep of even rows, each of about the size 2^size.
func flat(r *rand.Rand, n, size int) api.Matrix {
	return steep(r, n, func(i int) int { return size })
}

// uneven is steep of rows of sizes from 2^-limit to 2^limit.
func uneven(r *rand.Rand, n, limit int) api.Matrix {
	sizes := make([]int, n)
	for i := range sizes {
		sizes[i] = r.Intn(2*limit+1) - limit
	}
	return steep(r, n, func(i int) int { return sizes[i] })
}

// orders are counts of rows, the edges among them.
func orders() []int { return []int{0, 1, 2, 3, 4, 7, 20, top - 1, top} }

// factorByWords is Factor by the chapter's words, one operation at a time.
func factorByWords(m api.Matrix) (api.Factor, api.Errno, int) {
	n := m.Rows
	var l [top][top]float64
	var d [top]float64
	for j := range n {
		var v [top]float64
		for k := range j {
			v[k] = times(l[j][k], d[k])
		}
		s := m.Data[j*n+j]
		for k := range j {
			s = less(s, times(v[k], l[j][k]))
		}
		d[j] = s
		if !(s > 0) || !finite(s) {
			return api.Factor{}, api.ErrPivot, j
		}
		for i := j + 1; i < n; i++ {
			s := m.Data[i*n+j]
			for k := range j {
				s = less(s, times(l[i][k], v[k]))
			}
			l[i][j] = over(s, d[j])
			if !finite(l[i][j]) {
				return api.Factor{}, api.ErrOver, j
			}
		}
	}
	f := api.Factor{N: n, D: slices.Clone(d[:n])}
	for i := range n {
		f.L = append(f.L, l[i][:i]...)
	}
	return f, api.OK, 0
}

// at is L's number at (i, k), k not above i.
func at(f api.Factor, i, k int) float64 {
	if i == k {
		return 1
	}
	return f.L[i*(i-1)/2+k]
}

// timesByWords is Times by the chapter's words, one operation at a time.
func timesByWords(f api.Factor) api.Matrix {
	return mirrored(f.N, func(i, j int) float64 {
		s := 0.0
		for k := 0; k <= j; k++ {
			s = plus(s, times(times(at(f, i, k), f.D[k]), at(f, j, k)))
		}
		return s
	})
}

// isFactor checks that Factor of m is that one, with OK and 0.
func isFactor(t *testing.T, m api.Matrix, want api.Factor) {
	t.Helper()
	if f, e, row := lower.Factor(m); e != api.OK || row != 0 || !sameFactor(f, want) || !lower.Right(f) {
		t.Errorf("Factor of %v: %v, %v, %d, want %v", m, f, e, row, want)
	}
}

// isRefused checks that Factor of m tells an error, at that row, and no factor.
func isRefused(t *testing.T, m api.Matrix, want api.Errno, at int) {
	t.Helper()
	f, e, row := lower.Factor(m)
	if e != want || row != at || f.N != 0 || len(f.L) != 0 || len(f.D) != 0 {
		t.Errorf("Factor of %v: %v, %v, %d, want %v, %d", m, f, e, row, want, at)
	}
}

// asByWords checks Factor of a symmetric matrix of finite numbers to the bit, and tells whether there was a factor.
func asByWords(t *testing.T, m api.Matrix) bool {
	t.Helper()
	want, e, row := factorByWords(m)
	if e != api.OK {
		isRefused(t, m, e, row)
		return false
	}
	isFactor(t, m, want)
	return true
}

// P12.1: Right, at each order, one number too few or too many, whichever they are.
func TestRight(t *testing.T) {
	for n := -3; n <= top+3; n++ {
		for _, l := range []int{below(n) - 1, below(n), below(n) + 1} {
			for _, d := range []int{n - 1, n, n + 1} {
				if l < 0 || d < 0 {
					continue
				}
				want := n >= 0 && n <= top && l == below(n) && d == n
				for _, x := range list(0, 1, -1, nan, inf) {
					f := factor(n, slices.Repeat(list(x), l), slices.Repeat(list(x), d))
					if got := lower.Right(f); got != want {
						t.Errorf("N %d with %d and %d numbers: %v", n, l, d, got)
					}
				}
			}
		}
	}
	for _, n := range []int{math.MinInt, math.MinInt + 1, -1 << 32, -1, 1 << 32, 1<<32 + 1, math.MaxInt - 1, math.MaxInt} {
		for _, f := range []api.Factor{factor(n, nil, nil), factor(n, list(1), list(1)), factor(n, nil, list(1))} {
			if lower.Right(f) {
				t.Errorf("%v is right", f)
			}
		}
	}
	if !lower.Right(api.Factor{}) || !lower.Right(factor(0, list(), list(1)[:0])) || !lower.Right(factor(1, nil, list(-5))) {
		t.Error("one without numbers, or without L, isn't right")
	}
	if lower.Right(factor(3, make([]float64, 6), make([]float64, 3))) {
		t.Error("one with its diagonal is right")
	}
}

// P12.2: the examples, the order 0 and 1, noughts of either sign, subnormal numbers, great ones.
func TestFactorExamples(t *testing.T) {
	for _, c := range []struct {
		m    api.Matrix
		l, d []float64
	}{
		{of(2, 4, 2, 2, 5), list(0.5), list(4, 4)},
		{api.Matrix{}, nil, nil},
		{of(0, list()...), nil, nil},
		{of(1, 3), nil, list(3)},
		{of(1, least), nil, list(least)},
		{of(1, most), nil, list(most)},
		{of(2, 1, 0, 0, 1), list(0), list(1, 1)},
		{of(2, 1, minus0, minus0, 1), list(minus0), list(1, 1)},
		{of(2, 1, -2, -2, 5), list(-2), list(1, 1)},
		{of(3, 1, 2, 0, 2, 8, 4, 0, 4, 6), list(2, 0, 1), list(1, 4, 2)},
		{of(3, 1, 2, 3, 2, 8, 10, 3, 10, 18), list(2, 3, 1), list(1, 4, 5)},
		{of(3, 1, 0, minus0, 0, 1, minus0, minus0, minus0, 1), list(0, minus0, 0), list(1, 1, 1)}, // -0 less -0 is +0
		{of(2, 3, 1, 1, 1), list(1. / 3), list(3, less(1, times(times(1./3, 3), 1./3)))},
		{of(2, least, least, least, 1), list(1), list(least, 1)},
		{of(2, 0x1p-1000, 0x1p-600, 0x1p-600, 1), list(0x1p400), list(0x1p-1000, 1-0x1p-200)},
	} {
		isFactor(t, c.m, factor(c.m.Rows, c.l, c.d))
	}
}

// P12.2: pivots that are 0, below 0, or too great on the way; at the first row, in between, at the last.
func TestPivots(t *testing.T) {
	for _, c := range []struct {
		m   api.Matrix
		row int
	}{
		{of(1, 0), 0},
		{of(1, minus0), 0},
		{of(1, -1), 0},
		{of(1, -least), 0},
		{of(1, -most), 0},
		{of(2, 4, 2, 2, 1), 1},
		{of(2, most, most, most, most), 1},
		{of(2, most, -most, -most, most), 1},
		{of(2, 1, 2, 2, 1), 1},
		{of(2, 0, 1, 1, 1), 0},
		{of(2, 1, 0, 0, 0), 1},
		{of(2, 1, 0, 0, minus0), 1},
		{of(2, 1, 0x1p600, 0x1p600, most), 1}, // 2^1200 is too great
		{of(2, 0x1p-600, 0x1p300, 0x1p300, most), 1},
		{of(3, 1, 0, 0, 0, -1, 0, 0, 0, -1), 1},
		{of(3, 1, 2, 3, 2, 8, 10, 3, 10, 13), 2},
		{of(3, 1, 2, 3, 2, 8, 10, 3, 10, 12), 2},
		{of(2, 3, 1, 1, less(1, less(1, times(1./3, 1)))), 1},
	} {
		isRefused(t, c.m, api.ErrPivot, c.row)
	}
	for j := range top {
		for _, x := range list(0, minus0, -1, -least, -most) {
			m, _ := matrix.Identity(top)
			m.Data[j*top+j] = x
			isRefused(t, m, api.ErrPivot, j)
			m.Data[(top-1)*top+top-1] = -1 // a later fault stays behind it
			isRefused(t, m, api.ErrPivot, j)
		}
		m, _ := matrix.Identity(top)
		m.Data[j*top+j] = least
		isFactor(t, m, mustFactor(t, m))
	}
}

// mustFactor is the factor by the chapter's words of a matrix that has one.
func mustFactor(t *testing.T, m api.Matrix) api.Factor {
	t.Helper()
	f, e, row := factorByWords(m)
	if e != api.OK {
		t.Fatalf("%v: %v, %d", m, e, row)
	}
	return f
}

// P12.2: numbers of L that are not finite: too great a quotient, too great a product, two that cancel to NaN; the row is that of the pivot.
func TestOver(t *testing.T) {
	for _, c := range []struct {
		m   api.Matrix
		row int
	}{
		{of(2, least, 0x1p1000, 0x1p1000, 1), 0},
		{of(2, least, -0x1p1000, -0x1p1000, 1), 0},
		{of(2, 0.5, most, most, -1), 0},
		{of(3, 1, 0, 0, 0, 0.5, most, 0, most, 1), 1},
		{of(3, 1, 0x1p511, 0x1p520, 0x1p511, 0x1p1023, 0, 0x1p520, 0, 1), 1}, // L_20 v_0 is 2^1031
		{of(4, 1, 0, 0x1p500, 0x1p600, 0, 1, 0x1p500, -0x1p600, 0x1p500, 0x1p500, 0x1p1002, 0, 0x1p600, -0x1p600, 0, 1), 2}, // an infinity less an infinity
	} {
		if _, e, row := factorByWords(c.m); e != api.ErrOver || row != c.row {
			t.Fatalf("%v: %v, %d", c.m, e, row)
		}
		isRefused(t, c.m, api.ErrOver, c.row)
	}
	for j := range top - 1 {
		for _, i := range []int{j + 1, top - 1} {
			m, _ := matrix.Identity(top)
			m.Data[j*top+j] = least
			m.Data[i*top+j], m.Data[j*top+i] = 0x1p1000, 0x1p1000
			isRefused(t, m, api.ErrOver, j)
		}
	}
}

// wrong are matrices that are not right, or not square.
func wrong() []api.Matrix {
	return []api.Matrix{
		{Rows: 1, Cols: 2, Data: list(1, 1)},
		{Rows: 2, Cols: 1, Data: list(1, 1)},
		{Rows: 0, Cols: 3},
		{Rows: 3, Cols: 0},
		{Rows: 1, Cols: 4, Data: list(1, 2, 2, 5)},
		{Rows: 4, Cols: 1, Data: list(1, 2, 2, 5)},
		of(0, 1),
		of(1),
		of(1, 1, 1),
		of(2, 4, 2, 2),
		of(2, 4, 2, 2, 5, 1),
		of(2),
		of(-1, 1),
		of(-1),
		of(-2, 4, 2, 2, 5),
		of(top+1, make([]float64, (top+1)*(top+1))...),
		mirrored(top+1, func(i, j int) float64 { return float64((j + 1) / (i + 1)) }),
		of(top + 1),
		of(math.MaxInt),
		of(math.MinInt),
		of(1 << 32),
		{Rows: math.MinInt, Cols: 2},
	}
}

// P12.2: what is not right, not square, not symmetric, a 0 beside a -0 among it, in each corner.
func TestShape(t *testing.T) {
	for _, m := range wrong() {
		isRefused(t, m, api.ErrShape, 0)
		for i := range m.Data {
			if len(m.Data) > top {
				break
			}
			m.Data[i] = nan // ErrShape stays ahead of ErrNumber
			isRefused(t, m, api.ErrShape, 0)
		}
	}
	for _, m := range []api.Matrix{
		of(2, 1, 2, 3, 4),
		of(2, 1, 0, minus0, 4),
		of(2, 1, minus0, 0, 4),
		of(2, 1, 1, 1+2*u, 4),
		of(2, 1, nan, 1, 4),
		of(2, nan, 1, 2, 4),
		of(2, 1, inf, -inf, 4),
		of(2, 0, 1, 2, 4),
		of(3, 1, 0, 0, 0, 1, 0, 0, minus0, 1),
	} {
		isRefused(t, m, api.ErrShape, 0)
	}
	m, _ := matrix.Identity(top)
	for i := range top {
		for j := range top {
			if i != j {
				m.Data[i*top+j] = minus0
				isRefused(t, m, api.ErrShape, 0)
				m.Data[i*top+j] = 0
			}
		}
	}
}

// P12.2: a number that is not finite, wherever it stands, is told ahead of any pivot.
func TestNumbers(t *testing.T) {
	for _, m := range []api.Matrix{
		of(2, 1, nan, nan, 1),
		of(2, 1, nan, otherNaN, 1),
		of(2, 1, inf, inf, 1),
		of(2, 1, -inf, -inf, 1),
		of(1, nan),
		of(1, inf),
		of(1, -inf),
		of(2, 0, 0, 0, nan),
		of(2, -1, 1, 1, inf),
		of(2, least, 0x1p1000, 0x1p1000, nan),
		of(3, 0, 1, 0, 1, 1, nan, 0, nan, 1),
	} {
		isRefused(t, m, api.ErrNumber, 0)
	}
	for _, x := range list(nan, otherNaN, inf, -inf) {
		for i := range top {
			for j := range i + 1 {
				m, _ := matrix.Identity(top)
				m.Data[0] = -1
				m.Data[i*top+j], m.Data[j*top+i] = x, x
				isRefused(t, m, api.ErrNumber, 0)
			}
		}
	}
}

// P12.2: of several errors that of the least row counts, and in a row the pivot's.
func TestFirstError(t *testing.T) {
	for _, c := range []struct {
		m   api.Matrix
		e   api.Errno
		row int
	}{
		{of(2, 0, 0x1p1000, 0x1p1000, 1), api.ErrPivot, 0}, // a quotient by 0 would be too great
		{of(2, -least, 0x1p1000, 0x1p1000, 1), api.ErrPivot, 0},
		{of(2, least, 0x1p1000, 0x1p1000, -1), api.ErrOver, 0},
		{of(3, least, 0, 0x1p1000, 0, -1, 0, 0x1p1000, 0, 1), api.ErrOver, 0},
		{of(3, 1, 0, 0, 0, -1, 0x1p1000, 0, 0x1p1000, 1), api.ErrPivot, 1},
		{of(3, 1, 0, 0, 0, least, 0x1p1000, 0, 0x1p1000, 1), api.ErrOver, 1},
		{of(3, -1, 0, 0, 0, least, 0x1p1000, 0, 0x1p1000, 1), api.ErrPivot, 0},
		{of(3, least, 0x1p1000, 0, 0x1p1000, 1, 0, 0, 0, 0), api.ErrOver, 0},
		{of(3, least, 0, 0, 0, 1, 0, 0, 0, 0), api.ErrPivot, 2},
	} {
		isRefused(t, c.m, c.e, c.row)
	}
}

// P12.2: each operation as the chapter tells it, of matrices of all kinds: even and uneven rows, tiny and great ones, those that can't be taken apart.
func TestFactorToTheBit(t *testing.T) {
	r := rand.New(rand.NewSource(1))
	apart, refused := 0, 0
	check := func(m api.Matrix) {
		t.Helper()
		if asByWords(t, m) {
			apart++
		} else {
			refused++
		}
	}
	for _, x := range pool() {
		for _, y := range pool() {
			if finite(x) && finite(y) {
				check(of(2, x, y, y, 1))
				check(of(2, 1, x, x, y))
				check(of(2, x, 1, 1, y))
				check(of(3, 1, x, y, x, 3, 1, y, 1, 0x1p512))
			}
		}
	}
	for _, n := range orders() {
		for range 6 {
			check(flat(r, n, 0))
			check(flat(r, n, -537))
			check(flat(r, n, -533))
			check(flat(r, n, 508))
			check(uneven(r, n, 20))
			check(uneven(r, n, 260))
			check(uneven(r, n, 505))
			check(anySymmetric(r, n, finiteFloat))
			check(anySymmetric(r, n, fraction))
		}
	}
	for range 4000 {
		n := 2 + r.Intn(4)
		check(uneven(r, n, 530))
		check(flat(r, n, -530-r.Intn(8)))
		check(anySymmetric(r, n, finiteFloat))
	}
	if apart < 1000 || refused < 1000 {
		t.Errorf("%d were taken apart, %d refused", apart, refused)
	}
}

// P12.2: errors of each kind at rows within, of matrices that go well up to there.
func TestErrorsWithin(t *testing.T) {
	r := rand.New(rand.NewSource(2))
	seen := map[api.Errno]int{}
	for range 300 {
		n := 3 + r.Intn(top-2)
		m := flat(r, n, r.Intn(40)-20)
		set := func(i, j int, x float64) { m.Data[i*n+j], m.Data[j*n+i] = x, x }
		j := r.Intn(n - 2)
		between := j + 1 + r.Intn(n-j-2)
		switch r.Intn(3) {
		case 0:
			set(between, between, 0)
		case 1:
			set(r.Intn(n), between, 0x1p700)
		default:
			// The row between keeps its pivot; what is taken off below it is too great.
			set(between, between, 0x1p1015)
			set(between, j, math.Copysign(0x1p500, r.Float64()-0.5))
			set(n-1, j, 0x1p600)
		}
		_, e, row := factorByWords(m)
		if e != api.OK && row > 0 {
			seen[e]++
		}
		asByWords(t, m)
	}
	if seen[api.ErrPivot] < 20 || seen[api.ErrOver] < 20 {
		t.Error("seen:", seen)
	}
}

// P12.3: the examples, the order 0 and 1, what is not finite, noughts of either sign.
func TestTimesExamples(t *testing.T) {
	for _, c := range []struct {
		f    api.Factor
		want api.Matrix
	}{
		{factor(2, list(0.5), list(4, 4)), of(2, 4, 2, 2, 5)},
		{api.Factor{}, api.Matrix{}},
		{factor(1, nil, list(nan)), of(1, nan)},
		{factor(1, nil, list(inf)), of(1, inf)},
		{factor(1, nil, list(-3)), of(1, -3)},
		{factor(1, nil, list(minus0)), of(1, 0)},
		{factor(2, list(minus0), list(1, minus0)), of(2, 1, 0, 0, 0)},
		{factor(2, list(inf), list(0, 1)), of(2, 0, nan, nan, nan)},
		{factor(2, list(0), list(inf, 1)), of(2, inf, nan, nan, nan)},
		{factor(2, list(2), list(inf, -inf)), of(2, inf, inf, inf, nan)},
		{factor(2, list(nan), list(1, 1)), of(2, 1, nan, nan, nan)},
		{factor(2, list(1), list(1, otherNaN)), of(2, 1, 1, 1, nan)},
		{factor(3, list(2, 3, 1), list(1, 4, 5)), of(3, 1, 2, 3, 2, 8, 10, 3, 10, 18)},
		{factor(3, list(2, 3, 1), list(1, -4, 0)), of(3, 1, 2, 3, 2, 0, 2, 3, 2, 5)},
		{factor(2, list(0x1p600), list(0x1p600, 1)), of(2, 0x1p600, inf, inf, inf)},
		{factor(2, list(0x1p600), list(0x1p-600, 1)), of(2, 0x1p-600, 1, 1, 0x1p600)},
		{factor(2, list(0x1p-600), list(0x1p-600, 0)), of(2, 0x1p-600, 0, 0, 0)},
		{factor(2, list(0.5), list(least, least)), of(2, least, 0, 0, least)},
		{factor(2, list(0.75), list(least, least)), of(2, least, least, least, 2*least)},
		{factor(2, list(1), list(0x1p53, 1)), of(2, 0x1p53, 0x1p53, 0x1p53, 0x1p53)},
		{factor(2, list(1+2*u), list(1, -1-4*u)), of(2, 1, 1+2*u, 1+2*u, 0)}, // joined it would be 2^-104
	} {
		if m, e := lower.Times(c.f); e != api.OK || !sameMatrix(m, c.want) {
			t.Errorf("Times of %v: %v, %v, want %v", c.f, m, e, c.want)
		}
	}
}

// P12.3: factors that are not right are refused, with nothing beside it.
func TestTimesShape(t *testing.T) {
	for _, f := range []api.Factor{
		factor(2, nil, list(1, 1)),
		factor(2, list(1, 2), list(1, 1)),
		factor(2, list(1), list(1)),
		factor(2, list(1), list(1, 1, 1)),
		factor(2, list(1), nil),
		factor(1, list(1), list(1)),
		factor(1, nil, nil),
		factor(0, list(1), nil),
		factor(0, nil, list(1)),
		factor(-1, list(1), nil),
		factor(-1, nil, nil),
		factor(-1, list(1), list(1)),
		factor(3, list(1, 2, 3, 4), list(1, 2, 3)),
		factor(3, list(1, 2), list(1, 2, 3)),
		factor(top+1, make([]float64, below(top+1)), make([]float64, top+1)),
		factor(top, make([]float64, below(top)-1), make([]float64, top)),
		factor(top, make([]float64, below(top)), make([]float64, top+1)),
		factor(math.MaxInt, nil, nil),
		factor(math.MinInt, nil, nil),
		factor(1<<32, nil, nil),
		factor(1<<32+1, nil, nil),
		factor(2, list(nan, nan), list(1, 1)),
	} {
		if m, e := lower.Times(f); e != api.ErrShape || !sameMatrix(m, api.Matrix{}) {
			t.Errorf("Times of N %d with %d and %d numbers: %v, %v", f.N, len(f.L), len(f.D), m, e)
		}
	}
}

// P12.3: each operation as the chapter tells it, whichever floats stand in the factor; the matrix is symmetric.
func TestTimesToTheBit(t *testing.T) {
	r := rand.New(rand.NewSource(3))
	check := func(f api.Factor) {
		t.Helper()
		m, e := lower.Times(f)
		if want := timesByWords(f); e != api.OK || !sameMatrix(m, want) || !matrix.Symmetric(m) {
			t.Errorf("Times of %v: %v, %v, want %v", f, m, e, want)
		}
	}
	for _, x := range pool() {
		for _, y := range pool() {
			check(factor(2, list(x), list(y, 1)))
			check(factor(2, list(x), list(1, y)))
			check(factor(3, list(x, y, 1), list(1, -1, 0x1p-60)))
		}
	}
	for _, n := range orders() {
		for _, number := range []func(r *rand.Rand) float64{anyFloat, finiteFloat, fraction, fraction, fraction} {
			check(factor(n, many(r, below(n), number), many(r, n, number)))
		}
	}
	for range 2000 {
		n := 1 + r.Intn(5)
		check(factor(n, many(r, below(n), anyFloat), many(r, n, anyFloat)))
		check(factor(n, many(r, below(n), fraction), many(r, n, fraction)))
	}
}

// exact is x as it is; sums and products of a few such numbers stay exact.
func exact(x float64) *big.Float { return new(big.Float).SetPrec(8192).SetFloat64(x) }

func product(l ...*big.Float) *big.Float {
	p := exact(1)
	for _, x := range l {
		p.Mul(p, x)
	}
	return p
}

// withinBound checks that m's entry (i, j) is no further from the exact product than the chapter says.
func withinBound(t *testing.T, m api.Matrix, f api.Factor, i, j int) {
	t.Helper()
	sum, sizes, under := exact(0), exact(0), exact(0)
	for k := range j + 1 {
		p := product(exact(at(f, i, k)), exact(f.D[k]), exact(at(f, j, k)))
		sum.Add(sum, p)
		sizes.Add(sizes, p.Abs(p))
		if k < j {
			under.Add(under, exact(math.Abs(at(f, i, k))))
		}
	}
	off := new(big.Float).SetPrec(8192).Sub(exact(m.Data[i*m.Cols+j]), sum)
	under.Add(under, exact(1)).Add(under, exact(math.Abs(f.D[j])))
	bound := product(exact(0x1p-50), sizes)
	bound.Add(bound, product(exact(0x1p-1070), under))
	bound.Mul(bound, exact(float64(j+2)))
	if off.Abs(off).Cmp(bound) > 0 {
		t.Errorf("%d rows, at %d, %d: off by %v, bound %v", f.N, i, j, off, bound)
	}
}

// P12.4: all D are above 0, and the exact product is near m, subnormal numbers and rows of unlike sizes among it.
func TestNearTheProduct(t *testing.T) {
	r := rand.New(rand.NewSource(4))
	count := 0
	check := func(m api.Matrix) {
		t.Helper()
		f, e, _ := lower.Factor(m)
		if e != api.OK {
			return
		}
		count++
		for i := range f.N {
			if !(f.D[i] > 0) || !finite(f.D[i]) {
				t.Errorf("a pivot %x", f.D[i])
			}
			for j := range i + 1 {
				withinBound(t, m, f, i, j)
			}
		}
	}
	for range 120 {
		n := 1 + r.Intn(7)
		check(flat(r, n, 0))
		check(flat(r, n, -531-r.Intn(7)))
		check(uneven(r, n, 30))
		check(uneven(r, n, 480))
		check(anySymmetric(r, 1+r.Intn(3), finiteFloat))
	}
	for _, n := range []int{20, top} {
		check(flat(r, n, 0))
		check(uneven(r, n, 60))
	}
	if count < 300 {
		t.Error("only", count, "were taken apart")
	}
}

// within tells whether all numbers are 0 or of sizes from 2^-300 to 2^300.
func within(lists ...[]float64) bool {
	for _, l := range lists {
		for _, x := range l {
			if size := math.Abs(x); x != 0 && !(size >= 0x1p-300 && size <= 0x1p300) {
				return false
			}
		}
	}
	return true
}

// scaled is a list times 2^k.
func scaled(l []float64, k int) []float64 {
	out := slices.Clone(l)
	for i := range out {
		out[i] = math.Ldexp(out[i], k)
	}
	return out
}

// P12.4: a matrix times a power of two has the same L, to the bit, and the D times that.
func TestPowersOfTwo(t *testing.T) {
	r := rand.New(rand.NewSource(5))
	count := 0
	for range 120 {
		n := 1 + r.Intn(12)
		m := []api.Matrix{flat(r, n, 0), flat(r, n, 140), flat(r, n, -140), uneven(r, n, 60)}[r.Intn(4)]
		f, e, _ := lower.Factor(m)
		if e != api.OK || !within(m.Data, f.L, f.D) {
			continue
		}
		count++
		for k := -20; k <= 20; k++ {
			isFactor(t, of(n, scaled(m.Data, k)...), factor(n, f.L, scaled(f.D, k)))
		}
	}
	if count < 60 {
		t.Error("only", count, "were taken apart")
	}
}

// P12.4: where all is exact, what Times puts together Factor takes apart, to the bit.
func TestThereAndBack(t *testing.T) {
	r := rand.New(rand.NewSource(6))
	for _, n := range orders() {
		for range 20 {
			f := factor(n, make([]float64, below(n)), make([]float64, n))
			for i := range f.L {
				f.L[i] = float64(r.Intn(33)-16) / 8
			}
			for i := range f.D {
				f.D[i] = math.Ldexp(float64(1+r.Intn(100)), r.Intn(9)-4)
			}
			m, e := lower.Times(f)
			if e != api.OK {
				t.Fatal(e)
			}
			isFactor(t, m, f)
		}
	}
}

// roomy is a list with spare room, marked.
func roomy(l []float64) []float64 {
	return append(slices.Clone(l), 77, 77, 77)[:len(l)]
}

// untouched tells whether a roomy list is what it was, its spare room too.
func untouched(l, was []float64) bool {
	return sameList(l, was) && slices.Equal(l[len(l):len(l)+3], list(77, 77, 77))
}

// R3: what comes in stays as it was, its spare room too, whether it is taken apart or refused.
func TestListsAreLeft(t *testing.T) {
	r := rand.New(rand.NewSource(7))
	for _, m := range []api.Matrix{
		{}, flat(r, 1, 0), flat(r, 5, 0), flat(r, top, 0), of(2, 4, 2, 2, 1), of(2, 1, 2, 3, 4), of(2, 1, nan, nan, 1), of(2, least, 0x1p1000, 0x1p1000, 1), of(2, 1, 2, 2),
	} {
		was := slices.Clone(m.Data)
		m.Data = roomy(m.Data)
		lower.Factor(m)
		if !untouched(m.Data, was) {
			t.Errorf("changed: %v, was %v", m.Data, was)
		}
	}
	for _, n := range []int{0, 1, 2, 5, top} {
		for spoilt := range 2 {
			l, d := many(r, below(n)+spoilt, anyFloat), many(r, n, anyFloat)
			f := factor(n, roomy(l), roomy(d))
			lower.Right(f)
			lower.Times(f)
			if !untouched(f.L, l) || !untouched(f.D, d) {
				t.Errorf("changed: %v, was %v and %v", f, l, d)
			}
		}
	}
}

// R3: lists of a factor that share memory are told as others are, and stay as they were.
func TestListsThatShare(t *testing.T) {
	room := list(2, 3, 1, 4, 5, 9)
	was := slices.Clone(room)
	for _, f := range []api.Factor{
		factor(3, room[:3], room[:3]), factor(3, room[:3], room[1:4]), factor(3, room[2:5], room[:3]), factor(2, room[1:2], room[:2]), factor(3, room[3:], room[:3]),
	} {
		want, _ := lower.Times(factor(f.N, slices.Clone(f.L), slices.Clone(f.D)))
		got, e := lower.Times(f)
		if e != api.OK || !sameMatrix(got, want) || !slices.Equal(room, was) {
			t.Errorf("Times of %v: %v, %v, want %v", f, got, e, want)
		}
		scribble(got.Data, 1)
		if !slices.Equal(room, was) {
			t.Fatal("an answer is no new one")
		}
	}
}

// scribble writes all over a list that was handed out, and its spare room.
func scribble(l []float64, x float64) {
	for i := range l[:cap(l)] {
		l[:cap(l)][i] = x
	}
}

// R3, R4: lists of answers share no memory with one another, nor with what came in; what is done with one leaves the next as it is.
func TestAnswersAreApart(t *testing.T) {
	r := rand.New(rand.NewSource(8))
	for _, n := range []int{0, 1, 2, 3, 5, top} {
		m := flat(r, n, 0)
		was := slices.Clone(m.Data)
		want := mustFactor(t, m)
		first, _, _ := lower.Factor(m)
		second, _, _ := lower.Factor(m)
		back, _ := lower.Times(second)
		again, _ := lower.Times(second)
		lists := [][]float64{first.L, first.D, back.Data}
		for i, l := range lists {
			scribble(l, float64(i))
		}
		for i, l := range lists {
			for _, x := range l[:cap(l)] {
				if x != float64(i) {
					t.Fatal("lists share memory")
				}
			}
		}
		if !sameList(m.Data, was) || !sameFactor(second, want) || !sameMatrix(again, timesByWords(want)) {
			t.Errorf("%d rows: another list has changed", n)
		}
		isFactor(t, m, want)
	}
}

// R7: each operation on floats stands in a conversion, so that no machine joins two of them.
func TestNotJoined(t *testing.T) {
	if build.Default.GOROOT == "" {
		out, _ := exec.Command("go", "env", "GOROOT").Output()
		build.Default.GOROOT = strings.TrimSpace(string(out))
	}
	set := token.NewFileSet()
	file, err := parser.ParseFile(set, "lower.go", nil, 0)
	if err != nil {
		t.Fatal(err)
	}
	info := &types.Info{Types: map[ast.Expr]types.TypeAndValue{}}
	config := types.Config{Importer: importer.ForCompiler(set, "source", nil)}
	if _, err := config.Check("girder/lower", set, []*ast.File{file}, info); err != nil {
		t.Fatal(err)
	}
	isFloat := func(e ast.Expr) bool {
		b, ok := info.Types[e].Type.Underlying().(*types.Basic)
		return ok && b.Info()&types.IsFloat != 0
	}
	alone := map[ast.Expr]bool{}
	found := 0
	ast.Inspect(file, func(n ast.Node) bool {
		switch x := n.(type) {
		case *ast.CallExpr:
			if f, ok := x.Fun.(*ast.Ident); ok && f.Name == "float64" {
				alone[x.Args[0]] = true
			}
		case *ast.BinaryExpr:
			if isFloat(x) {
				found++
				if !alone[x] {
					t.Error("an operation stands alone:", set.Position(x.Pos()))
				}
			}
		case *ast.AssignStmt:
			if x.Tok != token.ASSIGN && x.Tok != token.DEFINE && isFloat(x.Lhs[0]) {
				t.Error("an operation stands alone:", set.Position(x.Pos()))
			}
		}
		return true
	})
	if found < 4 {
		t.Error("only", found, "operations on floats were found")
	}
}
