package bound_test

import (
	"go/ast"
	"go/build"
	"go/importer"
	"go/parser"
	"go/token"
	"go/types"
	"math"
	"math/big"
	"math/rand"
	"os/exec"
	"slices"
	"strings"
	"testing"

	"girder/api"
	"girder/bound"
	"girder/lower"
	"girder/refine"
	"girder/round"
	"girder/solve"
	"girder/span"
)

const (
	least  = 0x1p-1074
	normal = 0x1p-1022
	most   = math.MaxFloat64
	u      = 0x1p-53
	top    = api.MaxOrder
)

var (
	minus0   = math.Copysign(0, -1)
	inf      = math.Inf(1)
	nan      = math.NaN()
	otherNaN = math.Float64frombits(0xFFF0000000000001)
)

func list(l ...float64) []float64 { return l }

func of(lo, hi float64) api.Span { return api.Span{Lo: lo, Hi: hi} }

func at(x float64) api.Span { return of(x, x) }

func row(l ...api.Span) []api.Span { return l }

// points is each float as a span.
func points(l ...float64) []api.Span {
	out := make([]api.Span, len(l))
	for i, x := range l {
		out[i] = at(x)
	}
	return out
}

func spans(rows, cols int, l ...api.Span) api.Spans {
	return api.Spans{Rows: rows, Cols: cols, Data: l}
}

// single is a matrix of one span.
func single(lo, hi float64) api.Spans { return spans(1, 1, of(lo, hi)) }

// two is a matrix of two rows.
func two(a, b, c, d api.Span) api.Spans { return spans(2, 2, a, b, c, d) }

// fullOf is a matrix whose spans are all s.
func fullOf(rows, cols int, s api.Span) api.Spans {
	return spans(rows, cols, slices.Repeat(row(s), rows*cols)...)
}

// diagonal is the square matrix with those spans on its diagonal, else [+0, +0].
func diagonal(l ...api.Span) api.Spans {
	a := fullOf(len(l), len(l), api.Span{})
	for i, s := range l {
		a.Data[i*len(l)+i] = s
	}
	return a
}

func matrixOf(rows, cols int, l ...float64) api.Matrix {
	return api.Matrix{Rows: rows, Cols: cols, Data: l}
}

// number is a matrix of one float.
func number(x float64) api.Matrix { return matrixOf(1, 1, x) }

// all is a list of n times x.
func all(n int, x float64) []float64 { return slices.Repeat(list(x), n) }

// times is the square matrix with x on its diagonal.
func times(n int, x float64) api.Matrix {
	m := matrixOf(n, n, make([]float64, n*n)...)
	for i := range n {
		m.Data[i*n+i] = x
	}
	return m
}

func identity(n int) api.Matrix { return times(n, 1) }

func same(a, b float64) bool {
	return math.Float64bits(a) == math.Float64bits(b) || a != a && b != b
}

func sameList(a, b []float64) bool { return slices.EqualFunc(a, b, same) }

func sameSpans(a, b []api.Span) bool {
	return slices.EqualFunc(a, b, func(s, t api.Span) bool { return same(s.Lo, t.Lo) && same(s.Hi, t.Hi) })
}

func isFinite(x float64) bool { return !math.IsInf(x, 0) && !math.IsNaN(x) }

func allFinite(l []float64) bool {
	return !slices.ContainsFunc(l, func(x float64) bool { return !isFinite(x) })
}

// orders are counts of rows, the edges among them.
func orders() []int { return []int{0, 1, 2, 3, 5, top - 1, top} }

// strange is what is not finite.
func strange() []float64 { return list(inf, -inf, nan, otherNaN) }

// edges is finite floats at all edges, of both signs.
func edges() []float64 {
	out := list(0, minus0)
	for _, x := range list(least, 3*least, normal-least, normal, 0x1p-537, u, 0.1, 1-u, 1, 1+2*u, 2, 3, 0x1p53, 0x1p512, 0x1p970, 0x1p1023, most) {
		out = append(out, x, -x)
	}
	return out
}

// badSpans are spans that are not right, or have an infinite end.
func badSpans() []api.Span {
	out := row(of(2, 1), of(1, 1-u), of(least, 0), of(0, -least), of(1, inf), of(-inf, 1), of(-inf, inf), of(inf, -inf), of(most, -most))
	for _, x := range strange() {
		out = append(out, at(x), of(x, 1), of(1, x), of(0, x), of(x, 0))
	}
	return out
}

// badShapes are matrices of good spans that are too few, or too many.
func badShapes() []api.Spans {
	var out []api.Spans
	for _, c := range [][3]int{
		{1, 1, 0}, {1, 1, 2}, {2, 2, 3}, {2, 2, 5}, {2, 2, 2}, {0, 0, 1}, {0, 1, 1}, {1, 0, 1},
		{-1, 0, 0}, {0, -1, 0}, {-1, -1, 1}, {-1, -1, 0}, {1, -1, 0}, {-2, 2, 4}, {-2, -2, 4},
		{top + 1, 1, top + 1}, {1, top + 1, top + 1}, {top + 1, 0, 0}, {0, top + 1, 0}, {top + 1, top + 1, (top + 1) * (top + 1)}, {top + 1, top + 1, 0},
		{top, top, top*top - 1}, {top, top, top*top + 1}, {top, 1, top - 1}, {1, top, top + 1},
		{1 << 32, 1 << 32, 0}, {1 << 62, 4, 0}, {math.MaxInt, math.MaxInt, 1}, {math.MinInt, math.MinInt, 0}, {math.MinInt, 2, 0}, {1 << 33, 1 << 31, 0},
	} {
		out = append(out, spans(c[0], c[1], slices.Repeat(row(at(1)), c[2])...))
	}
	return out
}

// badMatrices are matrices of floats that are not right.
func badMatrices() []api.Matrix {
	var out []api.Matrix
	for _, a := range badShapes() {
		out = append(out, matrixOf(a.Rows, a.Cols, all(len(a.Data), 1)...))
	}
	return append(out, matrixOf(1, 1, nan, nan), matrixOf(2, 2, inf))
}

// slacksByWords is the slack of each row, by the chapter's words.
func slacksByWords(a api.Spans, c api.Matrix) []float64 {
	n := a.Rows
	out := make([]float64, n)
	for i := range n {
		s := 0.0
		for j := range n {
			var down []api.Span
			for k := range n {
				down = append(down, a.Data[k*n+j])
			}
			d, _ := span.Dot(points(c.Data[i*n:i*n+n]...), down)
			e := of(0, 0)
			if i == j {
				e = of(1, 1)
			}
			off, _ := span.Sub(e, d)
			size, _ := span.Mag(off)
			s = round.Add(s, size, api.Up)
		}
		out[i] = s
	}
	return out
}

// restsByWords is the rest of each row, by the chapter's words.
func restsByWords(a api.Spans, c api.Matrix, x []float64, b []api.Span) []float64 {
	n := a.Rows
	var l []api.Span
	for j := range n {
		d, _ := span.Dot(a.Data[j*n:j*n+n], points(x...))
		s, _ := span.Sub(b[j], d)
		l = append(l, s)
	}
	out := make([]float64, n)
	for i := range n {
		d, _ := span.Dot(points(c.Data[i*n:i*n+n]...), l)
		out[i], _ = span.Mag(d)
	}
	return out
}

// firstGreatest is the first than which none is greater; +0 of none.
func firstGreatest(l []float64) float64 {
	for _, x := range l {
		if !slices.ContainsFunc(l, func(y float64) bool { return y > x }) {
			return x
		}
	}
	return 0
}

// midsByWords is the middle of each span: three operations.
func midsByWords(l []api.Span) []float64 {
	out := make([]float64, len(l))
	for i, s := range l {
		out[i] = round.Add(round.Div(s.Lo, 2, api.Nearest), round.Div(s.Hi, 2, api.Nearest), api.Nearest)
	}
	return out
}

// Where Enclose ends, by the chapter's steps.
type place string

const (
	fine     place = "told"
	pivot    place = "1: the matrix can't be taken apart"
	inverse  place = "1: the inverse is not finite"
	refined  place = "2: no solution is found"
	slack    place = "3: the slack is not below 1"
	rest     place = "3: the rest is not finite"
	quotient place = "4: the quotient is not finite"
	end      place = "5: an end is not finite"
)

// encloseByWords is Enclose of what has the right shape, by the chapter's words, with so many steps.
func encloseByWords(a api.Spans, b []api.Span, steps int) ([]api.Span, place) {
	m := matrixOf(a.Rows, a.Cols, midsByWords(a.Data)...)
	f, e, _ := lower.Factor(m)
	if e != api.OK {
		return nil, pivot
	}
	c, e := solve.Inverse(f)
	if e != api.OK || !allFinite(c.Data) {
		return nil, inverse
	}
	x, _, e := refine.Until(m, f, midsByWords(b), steps)
	if e != api.OK {
		return nil, refined
	}
	rs, ss := restsByWords(a, c, x, b), slacksByWords(a, c)
	r, s := firstGreatest(rs), firstGreatest(ss)
	if !(s < 1) {
		return nil, slack
	}
	if !isFinite(r) {
		return nil, rest
	}
	t := round.Div(r, round.Sub(1, s, api.Down), api.Up)
	if !isFinite(t) {
		return nil, quotient
	}
	var out []api.Span
	for i := range x {
		w := round.Add(rs[i], round.Mul(ss[i], t, api.Up), api.Up)
		told := of(round.Sub(x[i], w, api.Down), round.Add(x[i], w, api.Up))
		if !isFinite(told.Lo) || !isFinite(told.Hi) {
			return nil, end
		}
		out = append(out, told)
	}
	return out, fine
}

// isSlack checks that Slack tells that float, with OK.
func isSlack(t *testing.T, a api.Spans, c api.Matrix, want float64) {
	t.Helper()
	if got, e := bound.Slack(a, c); e != api.OK || !same(got, want) {
		t.Errorf("Slack of %v, %v: %x, %v, want %x", a, c, got, e, want)
	}
}

// noSlack checks that Slack tells that error and nothing beside it.
func noSlack(t *testing.T, a api.Spans, c api.Matrix, want api.Errno) {
	t.Helper()
	if got, e := bound.Slack(a, c); e != want || !same(got, 0) {
		t.Errorf("Slack of %d by %d (%d), %d by %d (%d): %x, %v, want %v", a.Rows, a.Cols, len(a.Data), c.Rows, c.Cols, len(c.Data), got, e, want)
	}
}

// isRest checks that Rest tells that float, with OK.
func isRest(t *testing.T, a api.Spans, c api.Matrix, x []float64, b []api.Span, want float64) {
	t.Helper()
	if got, e := bound.Rest(a, c, x, b); e != api.OK || !same(got, want) {
		t.Errorf("Rest of %v, %v, %v, %v: %x, %v, want %x", a, c, x, b, got, e, want)
	}
}

// noRest checks that Rest tells that error and nothing beside it.
func noRest(t *testing.T, a api.Spans, c api.Matrix, x []float64, b []api.Span, want api.Errno) {
	t.Helper()
	if got, e := bound.Rest(a, c, x, b); e != want || !same(got, 0) {
		t.Errorf("Rest of %d by %d (%d), %d by %d (%d), %d, %d: %x, %v, want %v", a.Rows, a.Cols, len(a.Data), c.Rows, c.Cols, len(c.Data), len(x), len(b), got, e, want)
	}
}

// isEnclosed checks that Enclose tells those spans, with OK.
func isEnclosed(t *testing.T, a api.Spans, b, want []api.Span) {
	t.Helper()
	if got, e := bound.Enclose(a, b); e != api.OK || !sameSpans(got, want) {
		t.Errorf("Enclose of %v, %v: %v, %v, want %v", a, b, got, e, want)
	}
}

// notEnclosed checks that Enclose tells that error and nothing beside it.
func notEnclosed(t *testing.T, a api.Spans, b []api.Span, want api.Errno) {
	t.Helper()
	if got, e := bound.Enclose(a, b); e != want || len(got) != 0 {
		t.Errorf("Enclose of %d by %d (%d), %d: %v, %v, want %v", a.Rows, a.Cols, len(a.Data), len(b), got, e, want)
	}
}

// encloseAsByWords checks Enclose of what has the right shape, to the bit; it tells where it ends.
func encloseAsByWords(t *testing.T, a api.Spans, b []api.Span) place {
	t.Helper()
	want, where := encloseByWords(a, b, 4)
	if where != fine {
		notEnclosed(t, a, b, api.ErrBound)
	} else {
		isEnclosed(t, a, b, want)
	}
	return where
}

// P15.1 to P15.4: the chapter's examples.
func TestExamples(t *testing.T) {
	isEnclosed(t, two(at(4), at(2), at(2), at(5)), points(8, 12), points(1, 2))
	isEnclosed(t, single(1, 3), points(2), row(of(minus0, 2))) // 1 less 1, by Down
	if m, e := bound.Middle(single(1, 3)); e != api.OK || m.Rows != 1 || m.Cols != 1 || !sameList(m.Data, list(2)) {
		t.Error(m, e)
	}
	isRest(t, single(1, 3), number(0.5), list(1), points(2), 0.5)
	isSlack(t, single(1, 3), number(0.5), 0.5)
	isSlack(t, single(0, 4), number(0.5), 1)
	notEnclosed(t, single(0, 4), points(2), api.ErrBound)
	notEnclosed(t, single(-1, -1), points(0), api.ErrBound)
	notEnclosed(t, two(at(4), at(2), at(3), at(5)), points(8, 12), api.ErrShape)
	notEnclosed(t, single(1, inf), points(0), api.ErrShape)
	notEnclosed(t, single(-inf, 1), points(0), api.ErrShape)
	notEnclosed(t, single(1, 1), row(of(0, inf)), api.ErrShape)
	isSlack(t, spans(0, 0), matrixOf(0, 0), 0)
	noSlack(t, single(1, 1), number(nan), api.ErrNumber)
	isEnclosed(t, spans(0, 0), nil, nil)
}

// P15.1: matrices of each shape, square or not, of spans at all edges; 49 rows or columns, and spans too few or too many.
func TestRight(t *testing.T) {
	for _, rows := range orders() {
		for _, cols := range orders() {
			for _, s := range row(at(0), of(-most, most), of(minus0, 0), of(0, minus0), of(-least, least), of(1, 2)) {
				a := fullOf(rows, cols, s)
				if !bound.Right(a) {
					t.Errorf("%d by %d of %v is not right", rows, cols, s)
				}
				if bound.Right(spans(rows, cols, append(slices.Clone(a.Data), s)...)) {
					t.Errorf("%d by %d is right with one too many", rows, cols)
				}
				if len(a.Data) > 0 && bound.Right(spans(rows, cols, a.Data[1:]...)) {
					t.Errorf("%d by %d is right with one too few", rows, cols)
				}
			}
		}
	}
	for _, a := range badShapes() {
		if bound.Right(a) {
			t.Errorf("%d by %d of %d is right", a.Rows, a.Cols, len(a.Data))
		}
	}
	if !bound.Right(api.Spans{}) || !bound.Right(api.Spans{Rows: 3, Data: []api.Span{}}) || !bound.Right(api.Spans{Cols: top}) {
		t.Error("no spans are not right")
	}
	for _, lo := range edges() {
		for _, hi := range edges() {
			if bound.Right(single(lo, hi)) != (lo <= hi) {
				t.Errorf("Right of %x, %x", lo, hi)
			}
		}
	}
}

// P15.1: a span that is not right, or has an infinite end, at each place.
func TestRightSpans(t *testing.T) {
	for _, shape := range [][2]int{{1, 1}, {1, 3}, {2, 2}, {3, 1}, {top, top}} {
		for _, bad := range badSpans() {
			n := shape[0] * shape[1]
			for _, k := range []int{0, n / 2, n - 1} {
				a := fullOf(shape[0], shape[1], at(1))
				a.Data[k] = bad
				m, e := bound.Middle(a)
				if bound.Right(a) || e != api.ErrShape || m.Rows != 0 || m.Cols != 0 || len(m.Data) != 0 {
					t.Errorf("%v at %d of %v: %v, %v", bad, k, shape, m, e)
				}
			}
		}
	}
}

// isMiddle checks that Middle tells a matrix of a's shape with those floats.
func isMiddle(t *testing.T, a api.Spans, want []float64) {
	t.Helper()
	if m, e := bound.Middle(a); e != api.OK || m.Rows != a.Rows || m.Cols != a.Cols || !sameList(m.Data, want) {
		t.Errorf("Middle of %v: %v, %v, want %v", a, m, e, want)
	}
}

// P15.1: the middle of each span, to the bit, noughts and what is rounded among them; of matrices of each shape.
func TestMiddle(t *testing.T) {
	for _, c := range []struct {
		s    api.Span
		want float64
	}{
		{of(1, 2), 1.5}, {of(-1, 1), 0}, {of(-3, 1), -1}, {at(0), 0}, {at(minus0), minus0}, {of(minus0, 0), 0}, {of(0, minus0), 0},
		{at(least), 0}, {at(-least), minus0}, {at(3 * least), 4 * least}, {of(least, 3*least), 2 * least}, {at(most), most}, {at(-most), -most}, {of(-most, most), 0},
		{of(1, 1+2*u), 1}, {of(1+2*u, 1+4*u), 1 + 4*u}, {of(u, 2-2*u), 1}, {of(0, most), most / 2},
	} {
		isMiddle(t, single(c.s.Lo, c.s.Hi), list(c.want))
	}
	isMiddle(t, spans(2, 3, of(1, 3), at(5), of(-2, 6), at(minus0), at(7), of(8, 9)), list(2, 5, 2, minus0, 7, 8.5))
	isMiddle(t, spans(3, 2, of(1, 3), at(5), of(-2, 6), at(minus0), at(7), of(8, 9)), list(2, 5, 2, minus0, 7, 8.5))
	r := rand.New(rand.NewSource(1))
	for _, rows := range orders() {
		for _, cols := range orders() {
			a := spans(rows, cols, manySpans(r, rows*cols, anySpan)...)
			isMiddle(t, a, midsByWords(a.Data))
		}
	}
	for _, a := range badShapes() {
		if m, e := bound.Middle(a); e != api.ErrShape || m.Rows != 0 || m.Cols != 0 || len(m.Data) != 0 {
			t.Errorf("Middle of %d by %d of %d: %v, %v", a.Rows, a.Cols, len(a.Data), m, e)
		}
	}
}

// P15.2: the slack: which rows and columns, which ends, sums by Up in order, the greatest row.
func TestSlackExamples(t *testing.T) {
	for _, c := range []struct {
		a    api.Spans
		c    api.Matrix
		want float64
	}{
		{spans(0, 0), matrixOf(0, 0), 0},
		{single(1, 1), number(1), 0},
		{single(1, 1), number(0), 1},
		{single(1, 1), number(minus0), 1},
		{single(1, 1), number(-1), 2},
		{single(1, 4), number(0.5), 1},        // the end above
		{single(-2, 1), number(0.5), 2},       // the end below
		{single(0.5, 1), number(1), 0.5},      // it need not reach 0
		{single(3, 4), number(1), 3},          // both ends on one side
		{single(-1, 2), number(-0.5), 2},      // a factor below 0 turns the ends about
		{single(0.1, 0.1), number(10), 2 * u}, // 1 + 2^-54, which is told as [1, 1 + 2^-52]
		{two(at(1), at(2), at(3), at(4)), identity(2), 6},
		{two(at(1), at(2), at(-3), at(4)), identity(2), 6},
		{two(at(1), of(-7, 2), at(-3), at(4)), identity(2), 7},
		{two(at(3), at(2), at(0), at(1)), identity(2), 4},                         // the first row is greater
		{two(at(3), at(0), at(2), at(1)), identity(2), 2},                         // rows that are alike
		{two(at(0), at(1), at(1), at(0)), matrixOf(2, 2, 0, 1, 1, 0), 0},          // its own inverse
		{two(at(0), at(1), at(2), at(0)), matrixOf(2, 2, 0, 0.5, 1, 0), 0},        // rows of c, columns of a
		{two(at(0), at(1), at(2), at(0)), matrixOf(2, 2, 0, 1, 0.5, 0), 1},        // the other way: 1 - 2 and 1 - 1/2
		{two(at(1), at(10), at(100), at(1000)), matrixOf(2, 2, 1, 2, 3, 4), 4432}, // 403 and 4029
		{fullOf(top, top, at(1)), identity(top), top - 1},
		{two(at(0), at(0), at(0), at(0)), matrixOf(2, 2, 5, 6, 7, 8), 1},
	} {
		isSlack(t, c.a, c.c, c.want)
	}
	// 1, and two numbers that are too little beside it, in this order, and in the other one.
	small := at(0x1p-60)
	isSlack(t, spans(3, 3, at(0), small, small, at(0), at(1), at(0), at(0), at(0), at(1)), identity(3), 1+4*u)
	isSlack(t, spans(3, 3, at(1), at(0), at(0), at(0), at(1), at(0), small, small, at(0)), identity(3), 1+2*u)
	isSlack(t, spans(3, 3, at(1), at(0), at(0), small, at(0), small, at(0), at(0), at(1)), identity(3), 1+4*u)
	// Products and sums are rounded to both sides.
	isSlack(t, single(1+2*u, 1+2*u), number(1-u), 2*u)
	isSlack(t, single(1+2*u, 1+2*u), number(1-2*u), u)
	isSlack(t, single(least, least), number(0.5), 1)
	isSlack(t, single(least, least), number(-0.5), 1+2*u)
	// What is too great is told as the infinity, and no error.
	isSlack(t, single(most, most), number(2), inf)
	isSlack(t, single(-most, -most), number(2), inf)
	isSlack(t, single(-most, most), number(2), inf)
	isSlack(t, two(at(most), at(0), at(most), at(1)), matrixOf(2, 2, most, -most, 0, 1), inf)
	isSlack(t, single(-most, -most), number(1), inf) // 1 and the greatest float, by Up
	isSlack(t, single(most, most), number(1), most)
	isSlack(t, two(at(1), at(most), at(most), at(1)), identity(2), most)
	isSlack(t, spans(3, 3, at(1), at(most), at(0x1p970), at(0), at(1), at(0), at(0), at(0), at(1)), identity(3), inf)
}

// P15.3: the rest: which rows, which ends, the greatest row; what is left with an infinite end.
func TestRestExamples(t *testing.T) {
	for _, c := range []struct {
		a    api.Spans
		c    api.Matrix
		x    []float64
		b    []api.Span
		want float64
	}{
		{spans(0, 0), matrixOf(0, 0), nil, nil, 0},
		{single(1, 1), number(1), list(2), points(2), 0},
		{single(1, 1), number(1), list(2), points(5), 3},
		{single(1, 1), number(1), list(5), points(2), 3},
		{single(1, 1), number(-2), list(5), points(2), 6},
		{single(1, 1), number(minus0), list(5), points(2), 0},
		{single(1, 3), number(0.5), list(1), points(2), 0.5},
		{single(1, 3), number(0.5), list(-1), points(2), 2.5},
		{single(-1, 3), number(1), list(2), points(0), 6},
		{single(-3, 1), number(1), list(2), points(0), 6},
		{single(1, 1), number(1), list(0), row(of(-4, 3)), 4},
		{single(1, 1), number(1), list(0), row(of(-3, 4)), 4},
		{two(at(1), at(2), at(3), at(4)), identity(2), list(1, 10), points(0, 0), 43},
		{two(at(1), at(2), at(3), at(4)), identity(2), list(1, 10), points(121, 43), 100}, // the first row is greater
		{two(at(1), at(2), at(3), at(4)), identity(2), list(1, 10), points(22, 42), 1},    // rows that are alike
		{two(at(1), at(2), at(3), at(4)), matrixOf(2, 2, 1, 0, 100, 0), list(1, 10), points(22, 99), 100},
		{two(at(1), at(2), at(3), at(4)), matrixOf(2, 2, 1, 100, 0, 0), list(1, 10), points(22, 44), 101},
		{two(at(1), at(2), at(3), at(4)), matrixOf(2, 2, 1, -1, 0, 0), list(1, 10), points(22, 44), 0},
		{two(at(1), at(2), at(3), at(4)), matrixOf(2, 2, 1, -1, 0, 0), list(1, 10), row(of(21, 22), of(43, 44)), 1},
		{single(0.1, 0.1), number(1), list(10), points(1), 2 * u},                                                      // to both sides
		{spans(3, 3, points(1, 1, 1, 0, 0, 0, 0, 0, 0)...), identity(3), list(1, 0x1p-60, -1), points(0, 0, 0), 2 * u}, // in order
		{spans(3, 3, points(1, 1, 1, 0, 0, 0, 0, 0, 0)...), identity(3), list(1, -1, 0x1p-60), points(0, 0, 0), 0x1p-60},
		{fullOf(top, top, at(1)), identity(top), all(top, 1), points(all(top, 0)...), top},
		// Ends that are infinite are told, but for 0 times them.
		{single(most, most), number(1), list(2), points(0), inf},
		{single(most, most), number(0), list(2), points(0), 0},
		{single(-most, most), number(minus0), list(-2), points(0), 0},
		{two(at(most), at(0), at(0), at(1)), matrixOf(2, 2, 0, 1, 0, 3), list(2, 1), points(0, 2), 3},
		{single(most, most), number(1), list(1), points(0), most},
		{single(most, most), number(1), list(1), points(-least), inf},
		{single(1, 1), number(2), list(0), row(of(-most, most)), inf},
		{single(1, 1), number(1), list(0), row(of(-most, most)), most},
		{single(least, least), number(1), list(least), points(0), least},
	} {
		isRest(t, c.a, c.c, c.x, c.b, c.want)
	}
}

// bothNot checks that Slack and Rest tell that error, of an x and b that are as long as they ought to be, and good.
func bothNot(t *testing.T, a api.Spans, c api.Matrix, n int, want api.Errno) {
	t.Helper()
	noSlack(t, a, c, want)
	noRest(t, a, c, all(n, 1), points(all(n, 1)...), want)
}

// P15.2, P15.3: matrices that are not right, not square, or of two orders; numbers that are not finite stay behind that.
func TestSlackAndRestShapes(t *testing.T) {
	for _, fill := range list(1, nan, inf) {
		for _, a := range badShapes() {
			for _, n := range []int{0, 1, 2, top} {
				bothNot(t, a, times(n, fill), n, api.ErrShape)
			}
			if a.Rows == a.Cols && a.Rows >= 0 && a.Rows <= top+1 {
				bothNot(t, a, times(a.Rows, fill), a.Rows, api.ErrShape)
			}
		}
		for _, c := range badMatrices() {
			for _, n := range []int{0, 1, 2, top} {
				bothNot(t, fullOf(n, n, at(1)), c, n, api.ErrShape)
			}
		}
		for _, rows := range orders() {
			for _, cols := range orders() {
				if rows == cols {
					continue
				}
				a, c := fullOf(rows, cols, at(1)), matrixOf(rows, cols, all(rows*cols, fill)...)
				for _, n := range []int{rows, cols} {
					bothNot(t, a, c, n, api.ErrShape)
					bothNot(t, a, times(n, fill), n, api.ErrShape)
					bothNot(t, fullOf(n, n, at(1)), c, n, api.ErrShape)
				}
				bothNot(t, fullOf(rows, rows, at(1)), times(cols, fill), rows, api.ErrShape)
				bothNot(t, fullOf(rows, rows, at(1)), times(cols, fill), cols, api.ErrShape)
			}
		}
		for _, bad := range badSpans() {
			for k := range 4 {
				a := fullOf(2, 2, at(1))
				a.Data[k] = bad
				bothNot(t, a, times(2, fill), 2, api.ErrShape)
			}
		}
		bothNot(t, fullOf(top+1, top+1, at(1)), times(top+1, fill), top+1, api.ErrShape)
	}
	isSlack(t, fullOf(top, top, at(0)), identity(top), 1)
	isRest(t, fullOf(top, top, at(0)), identity(top), all(top, 1), points(all(top, 3)...), 3)
}

// P15.3: one number of x, one span of b too few or too many, or a span of b that is not right; what is not finite stays behind that.
func TestRestShapes(t *testing.T) {
	for _, n := range orders() {
		for _, fill := range list(1, nan, inf) {
			for _, off := range [][2]int{{1, 0}, {-1, 0}, {0, 1}, {0, -1}, {1, 1}, {-1, -1}, {1, -1}, {-1, 1}} {
				if n+off[0] < 0 || n+off[1] < 0 {
					continue
				}
				noRest(t, fullOf(n, n, at(1)), times(n, fill), all(n+off[0], fill), points(all(n+off[1], 1)...), api.ErrShape)
			}
			for _, bad := range badSpans() {
				for _, k := range []int{0, n / 2, n - 1} {
					if n == 0 {
						continue
					}
					b := points(all(n, 1)...)
					b[k] = bad
					noRest(t, fullOf(n, n, at(1)), times(n, fill), all(n, fill), b, api.ErrShape)
					noRest(t, fullOf(n, n, at(1)), identity(n), all(n, 1), b, api.ErrShape)
				}
			}
		}
	}
	noRest(t, spans(0, 0), matrixOf(0, 0), nil, points(1), api.ErrShape)
	noRest(t, spans(0, 0), matrixOf(0, 0), list(1), nil, api.ErrShape)
	noRest(t, single(1, 1), number(1), nil, nil, api.ErrShape)
}

// P15.2, P15.3: a number that is not finite at each place of c and x.
func TestNotFinite(t *testing.T) {
	for _, n := range []int{1, 2, 3, top} {
		a, x, b := fullOf(n, n, at(0)), all(n, 0), points(all(n, 0)...)
		for _, bad := range strange() {
			for _, k := range []int{0, n - 1, n * n / 2, n*n - 1} {
				c := matrixOf(n, n, make([]float64, n*n)...)
				c.Data[k] = bad
				noSlack(t, a, c, api.ErrNumber)
				noRest(t, a, c, x, b, api.ErrNumber)
			}
			for _, k := range []int{0, n / 2, n - 1} {
				y := all(n, 0)
				y[k] = bad
				noRest(t, a, identity(n), y, b, api.ErrNumber)
				noRest(t, a, times(n, bad), y, b, api.ErrNumber)
			}
		}
	}
	isSlack(t, single(0, 0), number(most), 1)
	isRest(t, single(0, 0), number(-most), list(-most), points(0), 0)
}

// P15.4: what is not right, square or symmetric, or b that does not fit, ahead of there being no bound.
func TestEncloseShapes(t *testing.T) {
	for _, diag := range list(1, -1, 0) {
		for _, a := range badShapes() {
			for _, n := range []int{0, 1, 2, top, top + 1} {
				notEnclosed(t, a, points(all(n, diag)...), api.ErrShape)
			}
		}
		for _, rows := range orders() {
			for _, cols := range orders() {
				if rows != cols {
					notEnclosed(t, fullOf(rows, cols, at(diag)), points(all(rows, 1)...), api.ErrShape)
					notEnclosed(t, fullOf(rows, cols, at(diag)), points(all(cols, 1)...), api.ErrShape)
				}
			}
			d := diagonal(points(all(rows, diag)...)...)
			notEnclosed(t, d, points(all(rows+1, 1)...), api.ErrShape)
			if rows > 0 {
				notEnclosed(t, d, points(all(rows-1, 1)...), api.ErrShape)
				notEnclosed(t, d, nil, api.ErrShape)
			}
			for _, bad := range badSpans() {
				for _, k := range []int{0, rows / 2, rows - 1} {
					if rows == 0 {
						continue
					}
					b := points(all(rows, 1)...)
					b[k] = bad
					notEnclosed(t, d, b, api.ErrShape)
					a := diagonal(points(all(rows, diag)...)...)
					a.Data[k*rows+k] = bad
					notEnclosed(t, a, points(all(rows, 1)...), api.ErrShape)
				}
			}
		}
	}
	for _, bad := range badSpans() { // at both of two places, so that it is symmetric
		notEnclosed(t, two(at(1), bad, bad, at(1)), points(1, 1), api.ErrShape)
	}
	n := top + 1
	notEnclosed(t, diagonal(points(all(n, 1)...)...), points(all(n, 1)...), api.ErrShape)
	isEnclosed(t, diagonal(points(all(top, 2)...)...), points(all(top, 6)...), points(all(top, 3)...))
}

// P15.4: a_ij and a_ji that are not the same, in one end or both, at each place; noughts are equal but have not the same bits.
func TestNotSymmetric(t *testing.T) {
	for _, pair := range [][2]api.Span{
		{at(0), at(minus0)}, {of(minus0, 0), at(0)}, {of(0, minus0), at(0)}, {of(minus0, 0), of(0, minus0)}, {of(minus0, 0), at(minus0)}, {of(-1, 0), of(-1, minus0)}, {of(0, 1), of(minus0, 1)},
		{at(0), at(least)}, {of(0, 0.25), of(0, 0.5)}, {of(-0.25, 0), of(0, 0)}, {of(-0.25, 0), of(0, 0.25)}, {at(0.25), at(0.25 + u)},
	} {
		for _, n := range []int{2, 3, top} {
			for _, k := range [][2]int{{0, 1}, {0, n - 1}, {n - 2, n - 1}} {
				for _, diag := range list(1, -1) {
					a := diagonal(points(all(n, diag)...)...)
					for turn := range 2 {
						a.Data[k[0]*n+k[1]], a.Data[k[1]*n+k[0]] = pair[turn], pair[1-turn]
						notEnclosed(t, a, points(all(n, 1)...), api.ErrShape)
					}
					for turn := range 2 {
						a.Data[k[0]*n+k[1]], a.Data[k[1]*n+k[0]] = pair[turn], pair[turn]
						encloseAsByWords(t, a, points(all(n, 1)...))
					}
				}
			}
		}
	}
	isEnclosed(t, two(at(1), at(minus0), at(minus0), at(1)), points(1, 2), points(1, 2))
}

// P15.4: each of the places at which there is no bound.
func TestNoBound(t *testing.T) {
	for _, c := range []struct {
		a     api.Spans
		b     []api.Span
		where place
	}{
		{single(-1, -1), points(0), pivot},
		{single(0, 0), points(0), pivot},
		{single(minus0, minus0), points(0), pivot},
		{single(-1, 1), points(0), pivot},
		{single(-1, 0.5), points(1), pivot},
		{single(least, least), points(0), pivot}, // the middle is 0
		{two(at(4), at(2), at(2), at(1)), points(6, 3), pivot},
		{two(at(1), at(2), at(2), at(1)), points(3, 3), pivot},
		{two(at(1), at(0), at(0), at(-1)), points(1, 1), pivot},
		{two(at(most), at(most), at(most), at(most)), points(0, 0), pivot},
		{two(at(0x1p-1000), at(0x1p1000), at(0x1p1000), at(1)), points(0, 0), pivot}, // L is too great
		{single(2*least, 2*least), points(0), inverse},
		{single(0x1p-1024, 0x1p-1024), points(0), inverse},
		{two(at(1), at(0), at(0), at(0x1p-1030)), points(1, 0), inverse},
		{two(at(0x1p-1030), at(0), at(0), at(1)), points(0, 1), inverse},
		{two(at(0x1p-100), at(0x1p900), at(0x1p900), at(most)), points(0, 0), pivot},
		{single(0x1p-1000, 0x1p-1000), points(0x1p100), refined},
		{single(0x1p-1000, 0x1p-1000), points(-0x1p24), refined},
		{single(0.5, 0.5), points(most), refined},
		{two(at(1), at(0), at(0), at(0.5)), points(1, -most), refined},
		{two(at(1), at(0x1p10), at(0x1p10), at(0x1p21)), points(0x1p1020, 0), refined}, // c times b is finite, all the same
		{two(at(1), at(0x1p10), at(0x1p10), at(0x1p21)), points(0x1p1010, 0), fine},
		{single(0, 4), points(2), slack},
		{single(-1, 4), points(0), slack},
		{single(0, 4), points(0), slack},
		{single(0, 2), row(of(-most, most)), slack},
		{two(at(1), of(-1, 1), of(-1, 1), at(1)), points(0, 0), slack},
		{two(at(1), at(0), at(0), of(0, 2)), points(0, 0), slack},
		{two(of(0, 2), at(0), at(0), at(1)), points(0, 0), slack},
		{two(at(1), of(-most, most), of(-most, most), at(1)), points(0, 0), slack},
		{single(0.5, 0.5), row(of(-most, most)), rest},
		{single(1, 1), row(of(-most, most)), fine},
		{two(at(1), at(0), at(0), at(0.5)), row(at(1), of(-most, most)), rest},
		{two(at(0.5), at(0), at(0), at(1)), row(of(-most, most), at(1)), rest},
		{single(1-u, 1), row(of(-most, most)), quotient},
		{single(0.5, 1.5), row(of(-0x1.8p1023, 0x1.8p1023)), quotient},
		{single(0.5, 1.5), row(of(-0x1p1022, 0x1p1022)), fine},
		{two(at(1), at(0), at(0), of(0.5, 1.5)), row(of(-most, most), at(0)), quotient}, // the greatest ones of two rows
		{single(0.75, 1.25), row(of(0, most)), end},
		{single(0.75, 1.25), row(of(-most, 0)), end},
		{single(1, 1), row(of(0, most)), fine},
		{single(0.5, 0.5), row(of(0, 0x1p1023)), end},
		{single(0.5, 0.5), row(of(-0x1p1023, 0)), end},
		{single(0.5, 0.5), row(of(-most/2, most/2)), fine},
		{two(at(1), at(0), at(0), of(0.75, 1.25)), row(at(1), of(0, most)), end},
		{two(of(0.75, 1.25), at(0), at(0), at(1)), row(of(-most, 0), at(1)), end},
	} {
		if got := encloseAsByWords(t, c.a, c.b); got != c.where {
			t.Errorf("Enclose of %v, %v: %s, not %s", c.a, c.b, got, c.where)
		}
	}
}

// P15.4: a slack of 1, and the greatest one below it; ends that are just finite.
func TestJustBound(t *testing.T) {
	isSlack(t, single(u, 2-2*u), identity(1), 1-u)
	isEnclosed(t, single(u, 2-2*u), points(0), row(of(minus0, 0)))
	// x is 1, r and s are 1 - u, t is 2^53 - 1, s t by Up likewise, w by Up 2^53.
	isEnclosed(t, single(u, 2-2*u), points(1), row(of(-0x1p53+1, 0x1p53+2)))
	isSlack(t, single(2*u, 2-2*u), identity(1), 1-2*u)
	if got := encloseAsByWords(t, single(2*u, 2-2*u), points(1)); got != fine {
		t.Error(got)
	}
	isSlack(t, single(0, 2), identity(1), 1)
	notEnclosed(t, single(0, 2), points(0), api.ErrBound)
	isSlack(t, single(least, 2), identity(1), 1)
	notEnclosed(t, single(least, 2), points(0), api.ErrBound)
	isEnclosed(t, single(1, 1), row(of(-most, most)), row(of(-most, most)))
	isEnclosed(t, single(1, 1), points(most), points(most))
	isEnclosed(t, single(1, 1), points(-most), points(-most))
	isEnclosed(t, single(0.5, 0.5), row(of(-most/2, most/2)), row(of(-most, most)))
	isEnclosed(t, single(0x1p1023, 0x1p1023), points(0x1p1023), points(1))
	isEnclosed(t, single(0x1p-1022, 0x1p-1022), points(0x1p-1022), points(1))
}

// P15.4: the least rows and columns, noughts of either sign, rests and slacks that are each row's own.
func TestEncloseExamples(t *testing.T) {
	for _, c := range []struct {
		a       api.Spans
		b, want []api.Span
	}{
		{spans(0, 0), nil, nil},
		{spans(0, 0), []api.Span{}, nil},
		{single(4, 4), points(3), points(0.75)},
		{single(4, 4), points(-3), points(-0.75)},
		{single(4, 4), points(0), row(of(minus0, 0))},
		{single(4, 4), points(minus0), row(of(minus0, 0))},
		{single(4, 4), row(of(-4, 4)), row(of(-1, 1))},
		{single(4, 4), row(of(4, 12)), row(of(1, 3))},
		{single(2, 6), points(0), row(of(minus0, 0))},
		{single(1, 3), points(-2), row(of(-2, 0))},
		{diagonal(at(1), at(2), at(4)), points(3, 6, 20), points(3, 3, 5)},
		// The second row's rest of 1/2 and slack of 1/2 make t 1; the first row has neither.
		{two(at(1), at(0), at(0), of(1, 3)), points(7, 2), row(at(7), of(minus0, 2))},
		{two(of(1, 3), at(0), at(0), at(1)), points(2, 7), row(of(minus0, 2), at(7))},
		// The first row has the rest of 3, the second the slack of 1/2: t is 6; w is 3, and 0 and 3.
		{two(at(1), at(0), at(0), of(0.5, 1.5)), row(of(-3, 3), at(0)), row(of(-3, 3), of(-3, 3))},
		{two(of(0.5, 1.5), at(0), at(0), at(1)), row(at(0), of(-3, 3)), row(of(-3, 3), of(-3, 3))},
		// The second row's slack is 1/4, of 1/2 at most: half as much of t.
		{two(of(0.5, 1.5), at(0), at(0), of(0.75, 1.25)), row(of(-1, 1), at(0)), row(of(-2, 2), of(-0.5, 0.5))},
	} {
		isEnclosed(t, c.a, c.b, c.want)
		if where := encloseAsByWords(t, c.a, c.b); where != fine {
			t.Errorf("%v, %v: %s", c.a, c.b, where)
		}
	}
}

// anyFinite is a finite float of any size.
func anyFinite(r *rand.Rand) float64 {
	switch r.Intn(4) {
	case 0:
		return edges()[r.Intn(len(edges()))]
	case 1:
		return math.Ldexp(r.Float64()-0.5, r.Intn(120)-60)
	case 2:
		return float64(r.Intn(41) - 20)
	}
	for {
		if x := math.Float64frombits(r.Uint64()); isFinite(x) {
			return x
		}
	}
}

// fraction is a finite float of about the size of 1.
func fraction(r *rand.Rand) float64 { return math.Ldexp(r.Float64()-0.5, r.Intn(8)) }

// tiny is a float whose products are about the least ones.
func tiny(r *rand.Rand) float64 { return math.Ldexp(r.Float64()-0.5, -537+r.Intn(9)-4) }

// great is a float whose products are about the greatest ones.
func great(r *rand.Rand) float64 { return math.Ldexp(r.Float64()-0.5, 512+r.Intn(5)-2) }

// nought is a 0 of either sign, now and then a small number.
func nought(r *rand.Rand) float64 { return list(0, minus0, minus0, 0, 1, -1)[r.Intn(6)] }

func kinds() []func(r *rand.Rand) float64 {
	return []func(r *rand.Rand) float64{anyFinite, fraction, fraction, tiny, great, nought}
}

func pick(r *rand.Rand) func(r *rand.Rand) float64 { return kinds()[r.Intn(len(kinds()))] }

func many(r *rand.Rand, n int, number func(r *rand.Rand) float64) []float64 {
	out := make([]float64, n)
	for i := range out {
		out[i] = number(r)
	}
	return out
}

// between is a span of two numbers, or of one.
func between(r *rand.Rand, number func(r *rand.Rand) float64) api.Span {
	a, b := number(r), number(r)
	if r.Intn(3) == 0 {
		b = a
	}
	if a > b {
		a, b = b, a
	}
	return of(a, b)
}

func anySpan(r *rand.Rand) api.Span { return between(r, pick(r)) }

func manySpans(r *rand.Rand, n int, number func(r *rand.Rand) api.Span) []api.Span {
	out := make([]api.Span, n)
	for i := range out {
		out[i] = number(r)
	}
	return out
}

// P15.2, P15.3: to the bit, at each order, of spans and floats of all kinds; nothing need be symmetric.
func TestSlackAndRestToTheBit(t *testing.T) {
	r := rand.New(rand.NewSource(2))
	infinite, finite := 0, 0
	check := func(n int) {
		t.Helper()
		kind, other := pick(r), pick(r)
		a := spans(n, n, manySpans(r, n*n, func(r *rand.Rand) api.Span { return between(r, kind) })...)
		c, x, b := matrixOf(n, n, many(r, n*n, other)...), many(r, n, pick(r)), manySpans(r, n, anySpan)
		s, e := firstGreatest(slacksByWords(a, c)), firstGreatest(restsByWords(a, c, x, b))
		isSlack(t, a, c, s)
		isRest(t, a, c, x, b, e)
		for _, x := range list(s, e) {
			if isFinite(x) {
				finite++
			} else {
				infinite++
			}
		}
	}
	for _, n := range orders() {
		for range 3 {
			check(n)
		}
	}
	for range 3000 {
		check(r.Intn(5))
	}
	if finite < 1000 || infinite < 300 {
		t.Error(finite, "were finite,", infinite, "were not")
	}
}

// P15.2, P15.3: the edges of floats against one another.
func TestEdgesToTheBit(t *testing.T) {
	for _, lo := range edges() {
		for _, hi := range edges() {
			if !(lo <= hi) {
				continue
			}
			a := single(lo, hi)
			for _, x := range edges() {
				c := number(x)
				isSlack(t, a, c, slacksByWords(a, c)[0])
				for _, y := range list(0, minus0, 1, -1, 0.1, most, -least) {
					isRest(t, a, c, list(y), points(3), restsByWords(a, c, list(y), points(3))[0])
					isRest(t, single(y, y), c, list(0.1), row(of(lo, hi)), restsByWords(single(y, y), c, list(0.1), row(of(lo, hi)))[0])
				}
			}
			encloseAsByWords(t, a, points(1))
			encloseAsByWords(t, a, row(of(lo, hi)))
			encloseAsByWords(t, single(1, 1), row(of(lo, hi)))
			encloseAsByWords(t, single(0.75, 1.25), row(of(lo, hi)))
		}
	}
}

// widened is a span around x, wide by about that part of its size.
func widened(r *rand.Rand, x, part float64) api.Span {
	d := math.Abs(x) * part
	return of(x-d*r.Float64(), x+d*r.Float64())
}

// spread is a symmetric matrix of n rows of spans so wide, whose diagonal is great beside the rest.
func spread(r *rand.Rand, n int, part float64) api.Spans {
	a := fullOf(n, n, api.Span{})
	for i := range n {
		for j := range i {
			a.Data[i*n+j] = widened(r, r.Float64()-0.5, part)
			a.Data[j*n+i] = a.Data[i*n+j]
		}
		a.Data[i*n+i] = widened(r, float64(n)*(1+r.Float64()), part)
	}
	return a
}

// steep is a symmetric matrix of n rows which is near to one that has no inverse, of spans so wide.
func steep(r *rand.Rand, n int, part float64) api.Spans {
	a, first := fullOf(n, n, api.Span{}), 1+r.Float64()
	for i := range n {
		for j := range i + 1 {
			a.Data[i*n+j] = widened(r, 1/(float64(i+j)+first), part)
			a.Data[j*n+i] = a.Data[i*n+j]
		}
	}
	return a
}

// anySymmetric is a symmetric matrix of spans of one kind, with what is above 0 on its diagonal.
func anySymmetric(r *rand.Rand, n int) api.Spans {
	kind, diag := pick(r), pick(r)
	a := fullOf(n, n, api.Span{})
	for i := range n {
		for j := range i {
			a.Data[i*n+j] = between(r, kind)
			a.Data[j*n+i] = a.Data[i*n+j]
		}
		x, y := math.Abs(diag(r)), math.Abs(diag(r))
		a.Data[i*n+i] = of(min(x, y), max(x, y))
	}
	return a
}

// lone is a matrix with spans about 1 on its diagonal, else noughts.
func lone(r *rand.Rand, n int) api.Spans {
	var l []api.Span
	for range n {
		l = append(l, widened(r, math.Ldexp(1, r.Intn(3)-1), list(0, u, 0x1p-20, 0.2, 0.9)[r.Intn(5)]))
	}
	return diagonal(l...)
}

// P15.4: to the bit, at each order, of systems of all kinds; all places at which it ends are met.
func TestEncloseToTheBit(t *testing.T) {
	r := rand.New(rand.NewSource(3))
	met := map[place]int{}
	check := func(a api.Spans, number func(r *rand.Rand) api.Span) {
		t.Helper()
		met[encloseAsByWords(t, a, manySpans(r, a.Rows, number))]++
	}
	some := func(r *rand.Rand) api.Span { return between(r, fraction) }
	wide := func(r *rand.Rand) api.Span {
		return between(r, func(r *rand.Rand) float64 { return math.Ldexp(2*r.Float64()-1, 1024-r.Intn(3)) * (1 - u) })
	}
	for _, n := range orders() {
		for _, part := range list(0, 0x1p-40, 0.01) {
			check(spread(r, n, part), some)
		}
		check(anySymmetric(r, n), some)
	}
	for range 1000 {
		n := 1 + r.Intn(5)
		check(spread(r, n, list(0, u, 0x1p-30, 0.01, 0.5)[r.Intn(5)]), some)
		check(steep(r, n, list(0, 0, u, 0x1p-30)[r.Intn(4)]), some)
		check(anySymmetric(r, n), anySpan)
		check(lone(r, n), anySpan)
		check(lone(r, n), wide)
		check(diagonal(manySpans(r, n, func(r *rand.Rand) api.Span { return at(math.Abs(anyFinite(r))) })...), anySpan)
	}
	for _, where := range []place{fine, pivot, inverse, refined, slack, rest, quotient, end} {
		if met[where] < 20 {
			t.Errorf("%s: %d times", where, met[where])
		}
	}
}

// P15.4: a solution is refined by up to four steps, no fewer and no more, which shows in the spans.
func TestFourSteps(t *testing.T) {
	r := rand.New(rand.NewSource(4))
	fewer, more := 0, 0
	for range 10000 {
		// Rows that are nearly multiples of one another: what is left goes on to change a little with each step.
		x, y := fraction(r), fraction(r)
		bit := math.Ldexp(y*y, -43-r.Intn(6)) * (0.5 + r.Float64())
		a, b := two(at(x*x), at(x*y), at(x*y), at(y*y+bit)), points(fraction(r), fraction(r))
		if encloseAsByWords(t, a, b) != fine {
			continue
		}
		got, _ := bound.Enclose(a, b)
		if other, _ := encloseByWords(a, b, 3); !sameSpans(got, other) {
			fewer++
		}
		if other, _ := encloseByWords(a, b, 5); !sameSpans(got, other) {
			more++
		}
	}
	if fewer < 5 || more < 5 {
		t.Error("the fourth step shows", fewer, "times, a fifth one would", more, "times")
	}
}

func exact(x float64) *big.Rat { return new(big.Rat).SetFloat64(x) }

// inside is a number of a span: an end, or one between them, a fraction that need be no float.
func inside(r *rand.Rand, s api.Span) *big.Rat {
	lo, hi := exact(s.Lo), exact(s.Hi)
	part := big.NewRat(int64(r.Intn(8)), 7)
	if r.Intn(2) == 0 {
		part = big.NewRat(int64(r.Intn(2)), 1)
	}
	return lo.Add(lo, part.Mul(part, hi.Sub(hi, lo)))
}

func allInside(r *rand.Rand, l []api.Span) []*big.Rat {
	var out []*big.Rat
	for _, s := range l {
		out = append(out, inside(r, s))
	}
	return out
}

// product is the sum of the products of each two.
func product(a, b []*big.Rat) *big.Rat {
	s := new(big.Rat)
	for k := range a {
		s.Add(s, new(big.Rat).Mul(a[k], b[k]))
	}
	return s
}

func exactly(l []float64) []*big.Rat {
	var out []*big.Rat
	for _, x := range l {
		out = append(out, exact(x))
	}
	return out
}

// solved is the one solution of a system of n rows, exactly; none, if there is not just one.
func solved(n int, a, b []*big.Rat) []*big.Rat {
	rows := make([][]*big.Rat, n)
	for i := range rows {
		rows[i] = append(slices.Clone(a[i*n:i*n+n]), b[i])
	}
	for j := range n {
		p := slices.IndexFunc(rows[j:], func(l []*big.Rat) bool { return l[j].Sign() != 0 })
		if p < 0 {
			return nil
		}
		rows[j], rows[j+p] = rows[j+p], rows[j]
		for i := range n {
			if i == j || rows[i][j].Sign() == 0 {
				continue
			}
			part := new(big.Rat).Quo(rows[i][j], rows[j][j])
			for k := range rows[i] {
				rows[i][k] = new(big.Rat).Sub(rows[i][k], new(big.Rat).Mul(part, rows[j][k]))
			}
		}
	}
	x := make([]*big.Rat, n)
	for i := range x {
		x[i] = new(big.Rat).Quo(rows[i][n], rows[i][i])
	}
	return x
}

// holds checks that the solution of numbers within the spans lies in those that are told.
func holds(t *testing.T, r *rand.Rand, a api.Spans, b, told []api.Span) {
	t.Helper()
	x := solved(a.Rows, allInside(r, a.Data), allInside(r, b))
	if x == nil {
		t.Fatalf("%v has a matrix without an inverse", a)
	}
	for i, s := range told {
		if x[i].Cmp(exact(s.Lo)) < 0 || x[i].Cmp(exact(s.Hi)) > 0 {
			t.Errorf("%v, %v: %v is not in %v", a, b, x[i], s)
		}
	}
}

// P15.5: whichever numbers are taken, symmetric or not, there is one solution, and it lies in what Enclose tells.
func TestSolutionsLieWithin(t *testing.T) {
	r := rand.New(rand.NewSource(5))
	told := 0
	check := func(a api.Spans, b []api.Span) {
		t.Helper()
		got, e := bound.Enclose(a, b)
		if e != api.OK {
			return
		}
		told++
		for _, s := range got {
			if !span.Right(s) || !isFinite(s.Lo) || !isFinite(s.Hi) {
				t.Errorf("%v, %v: %v is told", a, b, s)
			}
		}
		for range 6 {
			holds(t, r, a, b, got)
		}
	}
	some := func(r *rand.Rand) api.Span { return between(r, fraction) }
	for range 150 {
		n := 1 + r.Intn(4)
		check(spread(r, n, list(0, u, 0x1p-20, 0.1, 0.4)[r.Intn(5)]), manySpans(r, n, some))
		check(steep(r, n, list(0, u, 0x1p-30)[r.Intn(3)]), manySpans(r, n, some))
		check(lone(r, n), manySpans(r, n, anySpan))
		check(anySymmetric(r, n), manySpans(r, n, anySpan))
	}
	if told < 250 {
		t.Error("only", told, "were told")
	}
	a, b := spread(r, 12, 0.01), manySpans(r, 12, some)
	check(a, b)
}

// P15.5: where all spans are one number each, what is told is narrow, though the solution is no float.
func TestNarrow(t *testing.T) {
	r := rand.New(rand.NewSource(6))
	for _, n := range []int{1, 2, 5, top} {
		got, e := bound.Enclose(spread(r, n, 0), points(many(r, n, fraction)...))
		if e != api.OK || len(got) != n {
			t.Fatal(n, e)
		}
		for _, s := range got {
			if s.Hi-s.Lo > 0x1p-35 {
				t.Errorf("%d rows: %v", n, s)
			}
		}
	}
	got, e := bound.Enclose(single(3, 3), points(1))
	if e != api.OK || len(got) != 1 || exact(got[0].Lo).Cmp(big.NewRat(1, 3)) > 0 || exact(got[0].Hi).Cmp(big.NewRat(1, 3)) < 0 || got[0].Hi-got[0].Lo > 8*u {
		t.Error(got, e)
	}
}

// P15.5: the sizes of a row of 1 - c A come to no more than its slack, what c makes of what is left to no more than its rest.
func TestSlackAndRestBound(t *testing.T) {
	r := rand.New(rand.NewSource(7))
	checked := 0
	for range 400 {
		n := 1 + r.Intn(3)
		kind := pick(r)
		a := spans(n, n, manySpans(r, n*n, func(r *rand.Rand) api.Span { return between(r, kind) })...)
		c, x, b := matrixOf(n, n, many(r, n*n, pick(r))...), many(r, n, pick(r)), manySpans(r, n, anySpan)
		s, _ := bound.Slack(a, c)
		e, _ := bound.Rest(a, c, x, b)
		for range 4 {
			numbers, right, left := allInside(r, a.Data), allInside(r, b), make([]*big.Rat, n)
			for j := range n {
				left[j] = new(big.Rat).Sub(right[j], product(numbers[j*n:j*n+n], exactly(x)))
			}
			for i := range n {
				inRow, sum := exactly(c.Data[i*n:i*n+n]), new(big.Rat)
				for j := range n {
					var down []*big.Rat
					for k := range n {
						down = append(down, numbers[k*n+j])
					}
					off := product(inRow, down)
					if i == j {
						off.Sub(off, big.NewRat(1, 1))
					}
					sum.Add(sum, off.Abs(off))
				}
				if isFinite(s) && sum.Cmp(exact(s)) > 0 {
					t.Errorf("%v, %v: the slack is more than %x", a, c, s)
				}
				size := product(inRow, left)
				if isFinite(e) && size.Abs(size).Cmp(exact(e)) > 0 {
					t.Errorf("%v, %v, %v, %v: the rest is more than %x", a, c, x, b, e)
				}
				checked++
			}
		}
	}
	if checked < 1000 {
		t.Error("only", checked)
	}
}

// within is a span that lies in another one.
func within(r *rand.Rand, s api.Span) api.Span {
	mid, _ := span.Mid(s)
	mid = max(s.Lo, min(mid, s.Hi))
	switch r.Intn(6) {
	case 0:
		return s
	case 1:
		return at(s.Lo)
	case 2:
		return at(s.Hi)
	case 3:
		return of(s.Lo, mid)
	case 4:
		return of(mid, s.Hi)
	}
	return at(mid)
}

// P15.5: where spans lie in others, Slack and Rest tell no more than of those.
func TestWithin(t *testing.T) {
	r := rand.New(rand.NewSource(8))
	less := 0
	for range 3000 {
		n := 1 + r.Intn(4)
		a := spans(n, n, manySpans(r, n*n, anySpan)...)
		c, x, b := matrixOf(n, n, many(r, n*n, pick(r))...), many(r, n, pick(r)), manySpans(r, n, anySpan)
		inner, innerB := fullOf(n, n, at(0)), make([]api.Span, n)
		for k, s := range a.Data {
			inner.Data[k] = within(r, s)
		}
		for k, s := range b {
			innerB[k] = within(r, s)
		}
		s, _ := bound.Slack(a, c)
		innerS, e := bound.Slack(inner, c)
		if e != api.OK || !(innerS <= s) {
			t.Errorf("Slack of %v in %v, %v: %x, not above %x, %v", inner, a, c, innerS, s, e)
		}
		q, _ := bound.Rest(a, c, x, b)
		innerQ, e := bound.Rest(inner, c, x, innerB)
		if e != api.OK || !(innerQ <= q) {
			t.Errorf("Rest of %v in %v, %v, %v, %v in %v: %x, not above %x, %v", inner, a, c, x, innerB, b, innerQ, q, e)
		}
		if innerS < s && innerQ < q {
			less++
		}
	}
	if less < 300 {
		t.Error("less was told only", less, "times")
	}
}

// roomy is a list with spare room, marked.
func roomy[T any](l []T, mark T) []T {
	return append(slices.Clone(l), mark, mark, mark)[:len(l)]
}

// marks tells whether a roomy list's spare room is as it was.
func marks[T comparable](l []T, mark T) bool {
	return slices.Equal(l[len(l):len(l)+3], []T{mark, mark, mark})
}

// scribble writes all over a list that was handed out, and its spare room.
func scribble[T any](l []T, x T) {
	for i := range l[:cap(l)] {
		l[:cap(l)][i] = x
	}
}

// R3: what comes in stays as it was, its spare room too, whether it is reckoned with or refused.
func TestListsAreLeft(t *testing.T) {
	r := rand.New(rand.NewSource(9))
	for _, n := range []int{0, 1, 2, 5, top} {
		for kind := range 5 {
			for spoilt := range 3 {
				wereA := spread(r, n, list(0, 0.01, 0.9, 0.01, 0.01)[kind])
				if kind == 3 {
					wereA = anySymmetric(r, n)
				}
				wereC, wereX, wereB := many(r, n*n, fraction), many(r, n, fraction), manySpans(r, n+spoilt/2, anySpan)
				if kind == 4 && n > 0 {
					wereC[0], wereX[0] = nan, inf
				}
				a := spans(n, n+spoilt%2, roomy(wereA.Data, at(77))...)
				c, x, b := matrixOf(n, n, roomy(wereC, 77)...), roomy(wereX, 77), roomy(wereB, at(77))
				bound.Right(a)
				bound.Middle(a)
				bound.Slack(a, c)
				bound.Rest(a, c, x, b)
				bound.Enclose(a, b)
				if !sameSpans(a.Data, wereA.Data) || !sameList(c.Data, wereC) || !sameList(x, wereX) || !sameSpans(b, wereB) {
					t.Errorf("changed: %v, %v, %v, %v", a, c, x, b)
				}
				if !marks(a.Data, at(77)) || !marks(c.Data, 77) || !marks(x, 77) || !marks(b, at(77)) {
					t.Errorf("spare room was changed: %v, %v, %v, %v", a, c, x, b)
				}
			}
		}
	}
}

// R3: lists that share memory are reckoned with as others are, and stay as they were; answers are apart from them.
func TestListsThatShare(t *testing.T) {
	room := row(at(4), of(1, 1.5), of(1, 1.5), at(5), of(1, 1.5), of(-1, 2), at(9))
	was := slices.Clone(room)
	floats := list(0.25, 0.1, -0.5, 2, 7)
	floatsWere := slices.Clone(floats)
	for _, c := range []struct {
		n    int
		a, b []api.Span
		c, x []float64
	}{
		{2, room[:4], room[:2], floats[:4], floats[:2]},
		{2, room[:4], room[1:3], floats[:4], floats[3:]},
		{2, room[:4], room[3:5], floats[1:], floats[1:3]},
		{2, room[3:7], room[2:4], floats[1:], floats[:2]},
		{1, room[:1], room[:1], floats[:1], floats[:1]},
		{1, room[1:2], room[1:2], floats[3:4], floats[3:4]},
	} {
		a, m := spans(c.n, c.n, c.a...), matrixOf(c.n, c.n, c.c...)
		isSlack(t, a, m, firstGreatest(slacksByWords(a, m)))
		isRest(t, a, m, c.x, c.b, firstGreatest(restsByWords(a, m, c.x, c.b)))
		if same(a.Data[1%len(c.a)].Lo, a.Data[len(c.a)/2].Lo) && same(a.Data[1%len(c.a)].Hi, a.Data[len(c.a)/2].Hi) {
			encloseAsByWords(t, a, c.b)
		}
		told, _ := bound.Enclose(a, c.b)
		scribble(told, at(3))
		mid, _ := bound.Middle(a)
		scribble(mid.Data, 3)
		if !sameSpans(room, was) || !sameList(floats, floatsWere) {
			t.Fatal("what came in has changed, or an answer is no new one")
		}
	}
}

// R3, R4: answers share no memory with one another, nor with what came in; they are the same at each call, and none is kept.
func TestAnswersAreApart(t *testing.T) {
	r := rand.New(rand.NewSource(10))
	for _, n := range []int{0, 1, 2, 3, 5, top} {
		a, b := spread(r, n, 0.01), manySpans(r, n, func(r *rand.Rand) api.Span { return between(r, fraction) })
		want, where := encloseByWords(a, b, 4)
		if where != fine {
			t.Fatal(where)
		}
		first, e := bound.Enclose(a, b)
		second, f := bound.Enclose(a, b)
		if e != api.OK || f != api.OK || !sameSpans(first, want) || !sameSpans(second, want) {
			t.Fatal(e, f)
		}
		mid, _ := bound.Middle(a)
		other, _ := bound.Middle(a)
		scribble(first, at(1))
		scribble(mid.Data, 2)
		if !sameSpans(second, want) || !sameList(other.Data, midsByWords(a.Data)) {
			t.Fatal("answers share memory")
		}
		// What came in changes behind the calls: the answers do not, and the next ones do.
		wasMid := slices.Clone(other.Data)
		scribble(a.Data, at(0))
		scribble(b, at(7))
		if !sameSpans(second, want) || !sameList(other.Data, wasMid) {
			t.Fatal("what came in is kept")
		}
		if n > 0 {
			notEnclosed(t, a, b, api.ErrBound)
		}
		isMiddle(t, a, make([]float64, n*n))
	}
}

// parsed is the package's file, with the types of what stands in it.
func parsed(t *testing.T) (*token.FileSet, *ast.File, *types.Info) {
	t.Helper()
	if build.Default.GOROOT == "" {
		out, _ := exec.Command("go", "env", "GOROOT").Output()
		build.Default.GOROOT = strings.TrimSpace(string(out))
	}
	set := token.NewFileSet()
	file, err := parser.ParseFile(set, "bound.go", nil, 0)
	if err != nil {
		t.Fatal(err)
	}
	info := &types.Info{Types: map[ast.Expr]types.TypeAndValue{}}
	config := types.Config{Importer: importer.ForCompiler(set, "source", nil)}
	if _, err := config.Check("girder/bound", set, []*ast.File{file}, info); err != nil {
		t.Fatal(err)
	}
	return set, file, info
}

// R7: every operation on floats is one of another layer's, so that none is rounded by the way, and no machine joins two.
func TestNoOwnOperations(t *testing.T) {
	set, file, info := parsed(t)
	isFloat := func(e ast.Expr) bool {
		b, ok := info.Types[e].Type.Underlying().(*types.Basic)
		return ok && b.Info()&types.IsFloat != 0
	}
	ast.Inspect(file, func(n ast.Node) bool {
		switch x := n.(type) {
		case *ast.BinaryExpr:
			if isFloat(x) {
				t.Error("an operation stands at", set.Position(x.Pos()))
			}
		case *ast.AssignStmt:
			if x.Tok != token.ASSIGN && x.Tok != token.DEFINE && isFloat(x.Lhs[0]) {
				t.Error("an operation stands at", set.Position(x.Pos()))
			}
		}
		return true
	})
}

// Ways: what can fail leaves by a panic, which a deferred function recovers.
func TestWays(t *testing.T) {
	_, file, _ := parsed(t)
	calls := func(n ast.Node, name string) bool {
		found := false
		ast.Inspect(n, func(n ast.Node) bool {
			if c, ok := n.(*ast.CallExpr); ok {
				f, ok := c.Fun.(*ast.Ident)
				found = found || ok && f.Name == name
			}
			return true
		})
		return found
	}
	recovered := false
	ast.Inspect(file, func(n ast.Node) bool {
		if d, ok := n.(*ast.DeferStmt); ok {
			f, ok := d.Call.Fun.(*ast.FuncLit)
			recovered = recovered || ok && calls(f, "recover")
		}
		return true
	})
	if !recovered || !calls(file, "panic") {
		t.Error("no panic, or none that is recovered")
	}
}
