package sums_test

import (
	"go/ast"
	"go/parser"
	"go/token"
	"math"
	"math/big"
	"math/rand"
	"slices"
	"testing"

	"girder/api"
	"girder/round"
	"girder/sums"
)

const (
	least  = 0x1p-1074
	normal = 0x1p-1022
	most   = math.MaxFloat64
	u      = 0x1p-53
	big60  = 0x1p60
)

var (
	minus0 = math.Copysign(0, -1)
	inf    = math.Inf(1)
	nan    = math.NaN()
	modes  = []api.Mode{api.Nearest, api.Down, api.Up, api.Zero, -1, 4, 127}
)

func same(a, b float64) bool {
	return math.Float64bits(a) == math.Float64bits(b) || a != a && b != b
}

func finite(x float64) bool { return !math.IsNaN(x) && !math.IsInf(x, 0) }

// pool is floats at all edges, of both signs.
func pool() []float64 {
	var out []float64
	for _, x := range []float64{0, least, 3 * least, normal - least, normal, 0x1p-969, 0x1p-537, u, 0.1, 1, 1 + 2*u, 3, 0x1p53, big60, 0x1p512, 0x1p970, 0x1p1022, 0x1p1023, most, inf} {
		out = append(out, x, -x)
	}
	return append(out, nan)
}

// anyFloat is a finite float, now of any size, now of about that of 1.
func anyFloat(r *rand.Rand) float64 {
	x := math.Float64frombits(r.Uint64())
	switch r.Intn(3) {
	case 0:
		x = float64(r.Intn(41) - 20)
	case 1:
		x = math.Ldexp(r.Float64()-0.5, r.Intn(120)-60)
	}
	if !finite(x) {
		return 1
	}
	return x
}

func anyList(r *rand.Rand, n int) []float64 {
	out := make([]float64, n)
	for i := range out {
		out[i] = anyFloat(r)
		if i > 0 && r.Intn(4) == 0 { // so that much of the sum cancels
			out[i] = -out[r.Intn(i)]
		}
	}
	return out
}

// plus, less, times are one operation each, rounded by itself.
func plus(a, b float64) float64  { return round.Add(a, b, api.Nearest) }
func less(a, b float64) float64  { return round.Sub(a, b, api.Nearest) }
func times(a, b float64) float64 { return round.Mul(a, b, api.Nearest) }

// exactBits is enough for sums of products of any two floats, 2^100 of them.
const exactBits = 4400

func exact(x float64) *big.Float { return new(big.Float).SetPrec(exactBits).SetFloat64(x) }

func exactSum(l ...float64) *big.Float {
	sum := exact(0)
	for _, x := range l {
		sum.Add(sum, exact(x))
	}
	return sum
}

func exactProduct(a, b float64) *big.Float {
	return new(big.Float).SetPrec(exactBits).Mul(exact(a), exact(b))
}

func exactDot(a, b []float64) *big.Float {
	sum := exact(0)
	for i := range a {
		sum.Add(sum, exactProduct(a[i], b[i]))
	}
	return sum
}

// rounded is x, rounded by m: what Nearest tells, or the float beside it.
func rounded(x *big.Float, m api.Mode) float64 {
	if x.Sign() == 0 {
		return 0
	}
	near, side := x.Float64()
	down := m == api.Down || m == api.Zero && x.Sign() > 0
	up := m == api.Up || m == api.Zero && x.Sign() < 0
	if down && side == big.Above {
		near = math.Nextafter(near, -inf)
	}
	if up && side == big.Below {
		near = math.Nextafter(near, inf)
	}
	if x.Sign() < 0 {
		return -math.Abs(near)
	}
	return math.Abs(near)
}

// P6.1: example 1, and noughts, infinities, NaN, what is too great or too little.
func TestTwoExamples(t *testing.T) {
	for _, c := range []struct{ a, b, s, rest float64 }{
		{1, u, 1, u}, {u, 1, 1, u}, {1, 0x1p-60, 1, 0x1p-60}, {0x1p53, 3, 0x1p53 + 4, -1}, {3, 0x1p53, 0x1p53 + 4, -1}, {1, -0x1p-60, 1, -0x1p-60},
		{0, 0, 0, 0}, {minus0, minus0, minus0, 0}, {0, minus0, 0, 0}, {minus0, 0, 0, 0}, {1, -1, 0, 0}, {minus0, 1, 1, 0},
		{least, least, 2 * least, 0}, {1, least, 1, least}, {-least, most, most, -least},
		{most, most, inf, nan}, {-most, -most, -inf, nan}, {most, 0x1p970, inf, nan}, {inf, 1, inf, nan}, {1, -inf, -inf, nan}, {inf, -inf, nan, nan}, {nan, 1, nan, nan}, {1, nan, nan, nan},
	} {
		if s, rest := sums.TwoSum(c.a, c.b); !same(s, c.s) || !same(rest, c.rest) {
			t.Errorf("TwoSum(%x, %x): %x, %x, want %x, %x", c.a, c.b, s, rest, c.s, c.rest)
		}
	}
	for _, c := range []struct{ a, b, p, rest float64 }{
		{1 + 2*u, 1 + 2*u, 1 + 4*u, 0x1p-104}, {1 + 2*u, -1 - 2*u, -1 - 4*u, -0x1p-104}, {3, 5, 15, 0},
		{0, 1, 0, 0}, {minus0, 1, minus0, 0}, {minus0, -1, 0, 0}, {0, -most, minus0, 0},
		{0x1p512, 0x1p512, inf, -inf}, {0x1p512, -0x1p512, -inf, inf}, {most, 1, most, 0}, {least, least, 0, 0}, {least, -least, minus0, minus0}, {least, 0.75, least, minus0},
		{inf, 1, inf, nan}, {-inf, 2, -inf, nan}, {inf, 0, nan, nan}, {nan, 0, nan, nan}, {1, nan, nan, nan},
	} {
		if p, rest := sums.TwoProd(c.a, c.b); !same(p, c.p) || !same(rest, c.rest) {
			t.Errorf("TwoProd(%x, %x): %x, %x, want %x, %x", c.a, c.b, p, rest, c.p, c.rest)
		}
	}
}

// P6.1: each operation as the chapter tells it, at all pairs of edges.
func TestTwoToTheBit(t *testing.T) {
	for _, a := range pool() {
		for _, b := range pool() {
			s := plus(a, b)
			p := less(s, a)
			q := less(s, p)
			rest := plus(less(a, q), less(b, p))
			if x, y := sums.TwoSum(a, b); !same(x, s) || !same(y, rest) {
				t.Errorf("TwoSum(%x, %x): %x, %x, want %x, %x", a, b, x, y, s, rest)
			}
			p = times(a, b)
			rest = round.Fused(a, b, -p, api.Nearest)
			if x, y := sums.TwoProd(a, b); !same(x, p) || !same(y, rest) {
				t.Errorf("TwoProd(%x, %x): %x, %x, want %x, %x", a, b, x, y, p, rest)
			}
		}
	}
}

// P6.2: examples 2 and 3, lists of none and of one, noughts, infinities, NaN, sums that cancel or become too great on the way.
func TestInOrderExamples(t *testing.T) {
	for _, c := range []struct {
		l                     []float64
		naive, pairwise, kept float64
	}{
		{[]float64{1, big60, -big60}, 0, 1, 1},
		{[]float64{big60, 1, -big60}, 0, 0, 1},
		{[]float64{big60, -big60, 1}, 1, 0, 1},
		{[]float64{1, u, u, u}, 1, 1 + 2*u, 1 + 4*u},
		{[]float64{u, u, u, 1}, 1 + 4*u, 1 + 2*u, 1 + 4*u},
		{nil, 0, 0, 0},
		{[]float64{}, 0, 0, 0},
		{[]float64{minus0}, 0, minus0, 0},
		{[]float64{minus0, minus0}, 0, minus0, 0},
		{[]float64{minus0, 0}, 0, 0, 0},
		{[]float64{-3}, -3, -3, -3},
		{[]float64{1, -1}, 0, 0, 0},
		{[]float64{-1, 1}, 0, 0, 0},
		{[]float64{least, -3 * least}, -2 * least, -2 * least, -2 * least},
		{[]float64{most, most, -most}, inf, most, nan},
		{[]float64{most, -most, most}, most, most, most},
		{[]float64{-most, -most}, -inf, -inf, nan},
		{[]float64{inf}, inf, inf, nan},
		{[]float64{-inf}, -inf, -inf, nan},
		{[]float64{inf, 1}, inf, inf, nan},
		{[]float64{1, inf, -inf}, nan, nan, nan},
		{[]float64{nan}, nan, nan, nan},
		{[]float64{1, nan, 2}, nan, nan, nan},
	} {
		n, p, k := sums.Naive(c.l), sums.Pairwise(c.l), sums.Kept(c.l)
		if !same(n, c.naive) || !same(p, c.pairwise) || !same(k, c.kept) {
			t.Errorf("%x: %x, %x, %x, want %x, %x, %x", c.l, n, p, k, c.naive, c.pairwise, c.kept)
		}
	}
}

// naive, pairwise and kept go by the chapter's words.
func naive(l []float64) float64 {
	s := 0.0
	for _, x := range l {
		s = plus(s, x)
	}
	return s
}

func pairwise(l []float64) float64 {
	n := len(l)
	if n == 0 {
		return 0
	}
	if n == 1 {
		return l[0]
	}
	return plus(pairwise(l[:n/2]), pairwise(l[n/2:]))
}

func kept(l []float64) float64 {
	s, c := 0.0, 0.0
	for _, x := range l {
		t := plus(s, x)
		if math.Abs(s) >= math.Abs(x) {
			c = plus(c, plus(less(s, t), x))
		} else {
			c = plus(c, plus(less(x, t), s))
		}
		s = t
	}
	return plus(s, c)
}

func toTheBit(t *testing.T, l []float64) {
	t.Helper()
	if got, want := sums.Naive(l), naive(l); !same(got, want) {
		t.Errorf("Naive of %x: %x, want %x", l, got, want)
	}
	if got, want := sums.Pairwise(l), pairwise(l); !same(got, want) {
		t.Errorf("Pairwise of %x: %x, want %x", l, got, want)
	}
	if got, want := sums.Kept(l), kept(l); !same(got, want) {
		t.Errorf("Kept of %x: %x, want %x", l, got, want)
	}
}

// P6.2: each operation as the chapter tells it, at lists of edges and at lists of all lengths.
func TestInOrderToTheBit(t *testing.T) {
	for _, a := range pool() {
		for _, b := range pool() {
			toTheBit(t, []float64{a, b})
			for _, c := range []float64{1, -big60, most, -least, minus0, -inf} {
				toTheBit(t, []float64{a, b, c})
			}
		}
	}
	r := rand.New(rand.NewSource(1))
	for n := range 200 {
		toTheBit(t, anyList(r, n))
	}
	for range 2000 {
		toTheBit(t, anyList(r, 3+r.Intn(8)))
	}
}

// P6.2: an odd list is cut so that the first part is the shorter one.
func TestPairwiseHalves(t *testing.T) {
	if got := sums.Pairwise([]float64{1, u, u}); got != 1+2*u {
		t.Errorf("of three: %x", got)
	}
	if got := sums.Pairwise([]float64{1, u, u, u, u}); got != 1+4*u {
		t.Errorf("of five: %x", got)
	}
	if got := sums.Pairwise([]float64{u, u, 1}); got != 1 {
		t.Errorf("of three, the other way: %x", got)
	}
}

// P6.3: examples 2 and 3, exact sums of 0, sums above the greatest float, and on the way to a lesser one.
func TestExactExamples(t *testing.T) {
	for _, c := range []struct {
		l                       []float64
		nearest, down, up, zero float64
	}{
		{nil, 0, 0, 0, 0},
		{[]float64{}, 0, 0, 0, 0},
		{[]float64{minus0}, 0, 0, 0, 0},
		{[]float64{minus0, minus0}, 0, 0, 0, 0},
		{[]float64{1, -1}, 0, 0, 0, 0},
		{[]float64{-least, least}, 0, 0, 0, 0},
		{[]float64{-3}, -3, -3, -3, -3},
		{[]float64{1, big60, -big60}, 1, 1, 1, 1},
		{[]float64{big60, 1, -big60}, 1, 1, 1, 1},
		{[]float64{1, u, u}, 1 + 2*u, 1 + 2*u, 1 + 2*u, 1 + 2*u},
		{[]float64{1, u}, 1, 1, 1 + 2*u, 1},
		{[]float64{1, u, u, u}, 1 + 4*u, 1 + 2*u, 1 + 4*u, 1 + 2*u},
		{[]float64{-1, -u, -u, -u}, -1 - 4*u, -1 - 4*u, -1 - 2*u, -1 - 2*u},
		{[]float64{1, least}, 1, 1, 1 + 2*u, 1},
		{[]float64{1, -least}, 1, 1 - u, 1, 1 - u},
		{[]float64{-1, least}, -1, -1, -1 + u, -1 + u},
		{[]float64{most, least, -most}, least, least, least, least},
		{[]float64{most, most, -most}, most, most, most, most},
		{[]float64{most, most, most, -most, -most, -most, -least}, -least, -least, -least, -least},
		{[]float64{most, most}, inf, most, inf, most},
		{[]float64{-most, -most}, -inf, -inf, -most, -most},
		{[]float64{most, least}, most, most, inf, most},
		{[]float64{-most, -least}, -most, -inf, -most, -most},
		{[]float64{most, 0x1p970}, inf, most, inf, most},
		{[]float64{most, 0x1p970, -least}, most, most, inf, most},
	} {
		for i, want := range []float64{c.nearest, c.down, c.up, c.zero} {
			if got, e := sums.Exact(c.l, modes[i]); !same(got, want) || e != api.OK {
				t.Errorf("Exact of %x by %d: %x, %v, want %x", c.l, modes[i], got, e, want)
			}
		}
	}
}

func agrees(t *testing.T, what string, m api.Mode, got float64, e api.Errno, x *big.Float) {
	t.Helper()
	if want := rounded(x, m); !same(got, want) || e != api.OK {
		t.Errorf("%s by %d: %x, %v, want %x", what, m, got, e, want)
	}
}

// P6.3, P6.4: against exact numbers, by every way of rounding; a number that is no way of rounding counts as Nearest.
func TestExactly(t *testing.T) {
	r := rand.New(rand.NewSource(2))
	for n := range 400 {
		a, b := anyList(r, n%60), anyList(r, n%60)
		for _, m := range modes {
			got, e := sums.Exact(a, m)
			agrees(t, "Exact", m, got, e, exactSum(a...))
			got, e = sums.DotExact(a, b, m)
			agrees(t, "DotExact", m, got, e, exactDot(a, b))
		}
	}
	for _, a := range pool() {
		for _, b := range pool() {
			if !finite(a) || !finite(b) {
				continue
			}
			for _, m := range modes {
				got, e := sums.Exact([]float64{a, b}, m)
				agrees(t, "Exact", m, got, e, exactSum(a, b))
				got, e = sums.DotExact([]float64{a}, []float64{b}, m)
				agrees(t, "DotExact", m, got, e, exactProduct(a, b))
			}
		}
	}
}

// P6.3, P6.4: long lists, that go from the least float to the greatest one and cancel but for the last.
func TestLongLists(t *testing.T) {
	r := rand.New(rand.NewSource(3))
	var a, b []float64
	for range 20000 {
		x, y := anyFloat(r), anyFloat(r)
		a, b = append(a, x), append(b, y)
		a, b = append(a, -x), append(b, y)
	}
	a, b = append(a, least), append(b, 1)
	r.Shuffle(len(a), func(i, j int) {
		a[i], a[j] = a[j], a[i]
		b[i], b[j] = b[j], b[i]
	})
	if got, e := sums.Exact(a, api.Down); got != least || e != api.OK {
		t.Errorf("Exact: %x, %v", got, e)
	}
	if got, e := sums.DotExact(a, b, api.Up); got != least || e != api.OK {
		t.Errorf("DotExact: %x, %v", got, e)
	}
	if got, e := sums.Exact(slices.Repeat([]float64{most}, 1<<14), api.Zero); got != most || e != api.OK {
		t.Errorf("Exact of the greatest: %x, %v", got, e)
	}
}

// P6.4: example 4, the order, products rounded by themselves, infinities and NaN, exact sums of 0.
func TestDotExamples(t *testing.T) {
	for _, c := range []struct {
		a, b []float64
		want float64
	}{
		{nil, nil, 0},
		{nil, []float64{}, 0},
		{[]float64{big60, 1}, []float64{1, 1}, big60},
		{[]float64{big60, 1, -big60}, []float64{1, 1, 1}, 0},
		{[]float64{1, big60, -big60}, []float64{1, 1, 1}, 0},
		{[]float64{big60, -big60, 1}, []float64{1, 1, 1}, 1},
		{[]float64{minus0}, []float64{1}, 0},
		{[]float64{-1, 1 + 2*u}, []float64{1 + 4*u, 1 + 2*u}, 0}, // joined it would be 2^-104
		{[]float64{1 + 2*u, -1}, []float64{1 + 2*u, 1 + 4*u}, 0},
		{[]float64{most, most}, []float64{2, -2}, nan},
		{[]float64{inf, 1}, []float64{1, 1}, inf},
		{[]float64{inf}, []float64{0}, nan},
		{[]float64{1, nan}, []float64{1, 1}, nan},
		{[]float64{least}, []float64{0.25}, 0},
	} {
		if got, e := sums.Dot(c.a, c.b); !same(got, c.want) || e != api.OK {
			t.Errorf("Dot(%x, %x): %x, %v, want %x", c.a, c.b, got, e, c.want)
		}
	}
	for _, c := range []struct {
		a, b []float64
		m    api.Mode
		want float64
	}{
		{nil, nil, api.Down, 0},
		{[]float64{big60, 1, -big60}, []float64{1, 1, 1}, api.Up, 1},
		{[]float64{1, -1}, []float64{2, 2}, api.Down, 0},
		{[]float64{minus0}, []float64{1}, api.Down, 0},
		{[]float64{-1, 1 + 2*u}, []float64{1 + 4*u, 1 + 2*u}, api.Nearest, 0x1p-104},
		{[]float64{most, most, 3}, []float64{2, -2, 5}, api.Nearest, 15},
		{[]float64{most, -least, -most}, []float64{most, least, most}, api.Nearest, minus0},
		{[]float64{most, -least, -most}, []float64{most, least, most}, api.Down, -least},
		{[]float64{most, -least, -most}, []float64{most, least, most}, api.Up, minus0},
		{[]float64{least}, []float64{least}, api.Up, least},
		{[]float64{least}, []float64{least}, api.Zero, 0},
		{[]float64{most}, []float64{most}, api.Nearest, inf},
		{[]float64{most}, []float64{most}, api.Zero, most},
		{[]float64{-most}, []float64{most}, api.Up, -most},
	} {
		if got, e := sums.DotExact(c.a, c.b, c.m); !same(got, c.want) || e != api.OK {
			t.Errorf("DotExact(%x, %x, %d): %x, %v, want %x", c.a, c.b, c.m, got, e, c.want)
		}
	}
}

// P6.4: each operation as the chapter tells it.
func TestDotToTheBit(t *testing.T) {
	r := rand.New(rand.NewSource(4))
	for n := range 1000 {
		a, b := anyList(r, n%40), anyList(r, n%40)
		want := 0.0
		for i := range a {
			want = plus(want, times(a[i], b[i]))
		}
		if got, e := sums.Dot(a, b); !same(got, want) || e != api.OK {
			t.Errorf("Dot(%x, %x): %x, %v, want %x", a, b, got, e, want)
		}
	}
}

// P6.3, P6.4, P6.5: what is refused, wherever it stands, each error ahead of those behind it, and +0 beside it.
func TestErrors(t *testing.T) {
	refused := func(what string, x float64, e, want api.Errno) {
		t.Helper()
		if e != want || !same(x, 0) {
			t.Errorf("%s: %x, %v, want %v", what, x, e, want)
		}
	}
	for _, bad := range []float64{nan, inf, -inf, math.Float64frombits(0xFFF0000000000001)} {
		for n := 1; n <= 4; n++ {
			for at := range n {
				l, ok := slices.Repeat([]float64{most}, n), slices.Repeat([]float64{0}, n)
				l[at] = bad
				x, e := sums.Exact(l, api.Up)
				refused("Exact", x, e, api.ErrNumber)
				x, e = sums.DotExact(l, ok, api.Up)
				refused("DotExact of a", x, e, api.ErrNumber)
				x, e = sums.DotExact(ok, l, api.Up)
				refused("DotExact of b", x, e, api.ErrNumber)
				x, e = sums.DotExact(l, ok[1:], api.Up)
				refused("DotExact of unlike lengths", x, e, api.ErrShape)
				v, b, e := sums.Near(l) // too great as well, where l is long
				refused("Near", v, e, api.ErrNumber)
				refused("Near's bound", b, e, api.ErrNumber)
			}
		}
	}
	for _, c := range [][2][]float64{{{1}, nil}, {nil, {1}}, {{1}, {1, 2}}, {{1, 2}, {1}}, {{nan}, {}}, {{nan, inf}, {1}}} {
		x, e := sums.Dot(c[0], c[1])
		refused("Dot", x, e, api.ErrShape)
		x, e = sums.DotExact(c[0], c[1], api.Nearest)
		refused("DotExact", x, e, api.ErrShape)
	}
	for _, l := range [][]float64{{most, most}, {-most, -most}, {most, -most}, {most, least}, {most, most, -most}, {0x1p1023, 0x1p1023}, slices.Repeat([]float64{0x1p1020, -0x1p1020}, 9)} {
		v, b, e := sums.Near(l)
		refused("Near", v, e, api.ErrOver)
		refused("Near's bound", b, e, api.ErrOver)
	}
}

// P6.5: example 5, and edges.
func TestNearExamples(t *testing.T) {
	for _, c := range []struct {
		l    []float64
		v, b float64
	}{
		{[]float64{1, 1, -1}, 1, 9 * 0x1p-52},
		{nil, 0, 0},
		{[]float64{}, 0, 0},
		{[]float64{minus0}, 0, 0},
		{[]float64{0, minus0}, 0, 0},
		{[]float64{1}, 1, 0x1p-52},
		{[]float64{-1}, -1, 0x1p-52},
		{[]float64{big60, 1, -big60}, 0, 3*0x1p9 + 3*0x1p-43}, // 3 2^-52 times the least float above 2^61
		{[]float64{1, u}, 1, 2 * 0x1p-52 * (1 + 2*u)},
		{[]float64{least}, least, least},
		{[]float64{least, -least}, 0, least},
		{[]float64{most}, most, 0x1p-52 * most},
		{[]float64{0x1p1022, -0x1p1022}, 0, 0x1p972},
	} {
		if v, b, e := sums.Near(c.l); !same(v, c.v) || !same(b, c.b) || e != api.OK {
			t.Errorf("Near of %x: %x, %x, %v, want %x, %x", c.l, v, b, e, c.v, c.b)
		}
	}
}

// bound is Near's, by the chapter's words.
func bound(l []float64) float64 {
	sizes := 0.0
	for _, x := range l {
		sizes = rounded(exactSum(sizes, math.Abs(x)), api.Up)
		if !finite(sizes) {
			return inf
		}
	}
	return rounded(exactProduct(math.Ldexp(float64(len(l)), -52), sizes), api.Up)
}

// P6.5, P6.6: to the bit, and no further than that from the exact sum.
func TestNear(t *testing.T) {
	r := rand.New(rand.NewSource(5))
	for n := range 2000 {
		l := anyList(r, n%70)
		want := bound(l)
		v, b, e := sums.Near(l)
		if !finite(want) || !finite(naive(l)) {
			if e != api.ErrOver {
				t.Errorf("Near of %x: %v", l, e)
			}
			continue
		}
		if !same(v, naive(l)) || !same(b, want) || e != api.OK {
			t.Errorf("Near of %x: %x, %x, %v, want %x", l, v, b, e, want)
		}
		off := exactSum(append([]float64{-v}, l...)...)
		if off.Abs(off).Cmp(exact(b)) > 0 {
			t.Errorf("Near of %x: off by %g, bound %g", l, off, b)
		}
	}
}

// P6.6: what TwoSum and TwoProd tell is all of the sum, all of the product.
func TestTwoAreExact(t *testing.T) {
	check := func(a, b float64) {
		t.Helper()
		if math.Abs(a) < 0x1p1022 && math.Abs(b) < 0x1p1022 {
			s, rest := sums.TwoSum(a, b)
			if exactSum(s, rest).Cmp(exactSum(a, b)) != 0 {
				t.Errorf("TwoSum(%x, %x): %x, %x", a, b, s, rest)
			}
		}
		size := exactProduct(math.Abs(a), math.Abs(b))
		if p := times(a, b); finite(p) && (size.Sign() == 0 || size.Cmp(exact(0x1p-969)) >= 0) {
			x, rest := sums.TwoProd(a, b)
			if exactSum(x, rest).Cmp(exactProduct(a, b)) != 0 {
				t.Errorf("TwoProd(%x, %x): %x, %x", a, b, x, rest)
			}
		}
	}
	edges := append(pool(), math.Nextafter(0x1p1022, 0), -math.Nextafter(0x1p1022, 0), math.Nextafter(0x1p-484, 1), math.Nextafter(0x1p-485, 1))
	for _, a := range edges {
		for _, b := range edges {
			if finite(a) && finite(b) {
				check(a, b)
			}
		}
	}
	r := rand.New(rand.NewSource(6))
	for range 20000 {
		check(anyFloat(r), anyFloat(r))
	}
}

// P6.6: Exact and DotExact do not hang on the order, nor DotExact on which list is which.
func TestInNoOrder(t *testing.T) {
	r := rand.New(rand.NewSource(7))
	for n := range 200 {
		a, b := anyList(r, n%30), anyList(r, n%30)
		for _, m := range modes {
			sum, _ := sums.Exact(a, m)
			dot, _ := sums.DotExact(a, b, m)
			p := r.Perm(len(a))
			c, d := make([]float64, len(a)), make([]float64, len(a))
			for i, k := range p {
				c[i], d[i] = a[k], b[k]
			}
			if got, e := sums.Exact(c, m); !same(got, sum) || e != api.OK {
				t.Errorf("Exact of %x by %d: %x, %x", a, m, sum, got)
			}
			if got, e := sums.DotExact(d, c, m); !same(got, dot) || e != api.OK {
				t.Errorf("DotExact(%x, %x, %d): %x, %x", a, b, m, dot, got)
			}
		}
	}
}

// P6.6: how far Kept may be from the exact sum, where much cancels too.
func TestKeptIsNear(t *testing.T) {
	r := rand.New(rand.NewSource(8))
	for k := range 600 {
		n := 1 + r.Intn(100)
		if k%100 == 0 {
			n = 4096
		}
		l := make([]float64, n)
		for i := range l {
			l[i] = math.Ldexp(r.Float64()-0.5, r.Intn(1+k%200))
			if i > 0 && r.Intn(2) == 0 {
				l[i] = -l[r.Intn(i)]
			}
		}
		sum, sizes := exactSum(l...), exact(0)
		for _, x := range l {
			sizes.Add(sizes, exact(math.Abs(x)))
		}
		off := exactSum(append([]float64{-sums.Kept(l)}, l...)...)
		most := new(big.Float).SetPrec(exactBits).Mul(sum.Abs(sum), exact(0x1p-52))
		most.Add(most, sizes.Mul(sizes, exact(math.Ldexp(float64(n*n), -104))))
		if off.Abs(off).Cmp(most) > 0 {
			t.Errorf("Kept of %d: off by %g, at most %g", n, off, most)
		}
	}
}

// R3: lists are left as they are, their spare room too.
func TestListsAreLeft(t *testing.T) {
	room := []float64{1, big60, -big60, 7, 8}
	other := []float64{2, -3, 4, 5, 6}
	a, b := room[:3], other[:3]
	sums.Naive(a)
	sums.Pairwise(a)
	sums.Kept(a)
	sums.Exact(a, api.Nearest)
	sums.Dot(a, b)
	sums.DotExact(a, b, api.Up)
	sums.Near(a)
	if !slices.Equal(room, []float64{1, big60, -big60, 7, 8}) || !slices.Equal(other, []float64{2, -3, 4, 5, 6}) {
		t.Errorf("%x, %x", room, other)
	}
}

// R7: each operation stands in a conversion, so that no machine joins two of them. (Whole numbers are halved by / alone.)
func TestNotJoined(t *testing.T) {
	file, err := parser.ParseFile(token.NewFileSet(), "sums.go", nil, 0)
	if err != nil {
		t.Fatal(err)
	}
	alone := map[ast.Expr]bool{}
	ast.Inspect(file, func(n ast.Node) bool {
		switch x := n.(type) {
		case *ast.CallExpr:
			if f, ok := x.Fun.(*ast.Ident); ok && f.Name == "float64" {
				alone[x.Args[0]] = true
			}
		case *ast.BinaryExpr:
			if (x.Op == token.ADD || x.Op == token.SUB || x.Op == token.MUL) && !alone[x] {
				t.Errorf("an operation stands alone at byte %d", x.Pos())
			}
		case *ast.AssignStmt:
			if x.Tok != token.ASSIGN && x.Tok != token.DEFINE {
				t.Errorf("an operation stands alone at byte %d", x.Pos())
			}
		}
		return true
	})
}
