package vector_test

import (
	"go/ast"
	"go/parser"
	"go/token"
	"math"
	"math/big"
	"math/rand"
	"slices"
	"testing"

	"girder/api"
	"girder/round"
	"girder/vector"
)

const (
	least  = 0x1p-1074
	normal = 0x1p-1022
	most   = math.MaxFloat64
	u      = 0x1p-53
	big60  = 0x1p60
)

var (
	minus0   = math.Copysign(0, -1)
	inf      = math.Inf(1)
	nan      = math.NaN()
	otherNaN = math.Float64frombits(0xFFF0000000000001)
)

// pairs are the calls that put two lists together, each with what it does at a place by the chapter's words.
var pairs = []struct {
	name string
	call func(a, b []float64) ([]float64, api.Errno)
	at   func(x, y float64) float64
}{
	{"Add", vector.Add, plus},
	{"Sub", vector.Sub, less},
	{"Axpy of 2", axpy(2), func(x, y float64) float64 { return plus(times(2, x), y) }},
	{"Axpy of 1 + 2^-52", axpy(1 + 2*u), func(x, y float64) float64 { return plus(times(1+2*u, x), y) }},
	{"Axpy of -0.1", axpy(-0.1), func(x, y float64) float64 { return plus(times(-0.1, x), y) }},
	{"Axpy of 0", axpy(0), func(x, y float64) float64 { return plus(times(0, x), y) }},
	{"Axpy of -0", axpy(minus0), func(x, y float64) float64 { return plus(times(minus0, x), y) }},
	{"Axpy of the least", axpy(least), func(x, y float64) float64 { return plus(times(least, x), y) }},
	{"Axpy of the greatest", axpy(most), func(x, y float64) float64 { return plus(times(most, x), y) }},
	{"Axpy of an infinity", axpy(-inf), func(x, y float64) float64 { return plus(times(-inf, x), y) }},
	{"Axpy of NaN", axpy(nan), func(x, y float64) float64 { return nan }},
}

func axpy(t float64) func(a, b []float64) ([]float64, api.Errno) {
	return func(a, b []float64) ([]float64, api.Errno) { return vector.Axpy(t, a, b) }
}

// plus, less, times are one operation each, rounded by itself.
func plus(a, b float64) float64  { return round.Add(a, b, api.Nearest) }
func less(a, b float64) float64  { return round.Sub(a, b, api.Nearest) }
func times(a, b float64) float64 { return round.Mul(a, b, api.Nearest) }

func same(a, b float64) bool {
	return math.Float64bits(a) == math.Float64bits(b) || a != a && b != b
}

func sameList(a, b []float64) bool { return slices.EqualFunc(a, b, same) }

func finite(x float64) bool { return !math.IsNaN(x) && !math.IsInf(x, 0) }

func list(l ...float64) []float64 { return l }

// pool is floats at all edges, of both signs.
func pool() []float64 {
	var out []float64
	for _, x := range list(0, least, 3*least, normal-least, normal, 0x1p-969, 0x1p-537, u, 0.1, 1, 1+2*u, 3, 0x1p53, big60, 0x1p512, 0x1p970, 0x1p1023, most, inf) {
		out = append(out, x, -x)
	}
	return append(out, nan, otherNaN)
}

// allPairs is two lists that set each of pool against each.
func allPairs() (a, b []float64) {
	for _, x := range pool() {
		for _, y := range pool() {
			a, b = append(a, x), append(b, y)
		}
	}
	return a, b
}

// anyFloat is a float, now of any size, now of about that of 1, now of a few.
func anyFloat(r *rand.Rand) float64 {
	switch r.Intn(3) {
	case 0:
		return float64(r.Intn(41) - 20)
	case 1:
		return math.Ldexp(r.Float64()-0.5, r.Intn(120)-60)
	}
	return math.Float64frombits(r.Uint64())
}

func anyList(r *rand.Rand, n int) []float64 {
	out := make([]float64, n)
	for i := range out {
		out[i] = anyFloat(r)
	}
	return out
}

func finiteList(r *rand.Rand, n int) []float64 {
	out := anyList(r, n)
	for i, x := range out {
		if !finite(x) {
			out[i] = 1
		}
	}
	return out
}

// exactBits is enough for sums of 2^100 floats.
const exactBits = 2400

func exact(x float64) *big.Float { return new(big.Float).SetPrec(exactBits).SetFloat64(x) }

// exactSizes is the exact sum of the sizes.
func exactSizes(l []float64) *big.Float {
	sum := exact(0)
	for _, x := range l {
		sum.Add(sum, exact(math.Abs(x)))
	}
	return sum
}

// roundedUp is the least float not below x, which is not below 0.
func roundedUp(x *big.Float) float64 {
	near, side := x.Float64()
	if side == big.Below {
		return math.Nextafter(near, inf)
	}
	return near
}

// P9.1: example 1, empty lists and none, lengths, noughts, NaN, infinities, each place.
func TestSame(t *testing.T) {
	for _, c := range []struct {
		a, b []float64
		want bool
	}{
		{list(nan), list(nan), true},
		{list(nan), list(otherNaN), true},
		{list(otherNaN), list(math.Float64frombits(0x7FF8000000000123)), true},
		{list(0), list(minus0), false},
		{list(minus0), list(0), false},
		{list(minus0), list(minus0), true},
		{nil, nil, true},
		{nil, list(), true},
		{list(), nil, true},
		{list(), make([]float64, 0, 4), true},
		{list(1), nil, false},
		{nil, list(0), false},
		{list(1, 2), list(1), false},
		{list(1), list(1, 2), false},
		{list(1, 2), list(1, 2), true},
		{list(1, 2), list(2, 1), false},
		{list(nan), list(1), false},
		{list(1), list(nan), false},
		{list(nan), list(inf), false},
		{list(inf), list(otherNaN), false},
		{list(inf), list(inf), true},
		{list(inf), list(-inf), false},
		{list(1), list(1 + 2*u), false},
		{list(least), list(0), false},
		{list(least), list(-least), false},
		{list(1, nan, minus0, inf), list(1, nan, minus0, inf), true},
	} {
		if got := vector.Same(c.a, c.b); got != c.want {
			t.Errorf("Same(%x, %x): %v", c.a, c.b, got)
		}
	}
	for _, x := range pool() {
		for _, y := range pool() {
			if got := vector.Same(list(1, x), list(1, y)); got != same(x, y) {
				t.Errorf("Same of %x and %x: %v", x, y, got)
			}
		}
	}
}

// P9.1: of any length, past MaxVector too, each place counts.
func TestSameAtEachPlace(t *testing.T) {
	for _, n := range []int{1, 2, 3, 17, api.MaxVector, api.MaxVector + 1, 3 * api.MaxVector} {
		a, b := make([]float64, n), make([]float64, n)
		if !vector.Same(a, b) || vector.Same(a, b[1:]) || vector.Same(a[1:], b) {
			t.Errorf("lists of %d", n)
		}
		for _, at := range []int{0, n / 2, n - 1} {
			b[at] = minus0
			if vector.Same(a, b) {
				t.Errorf("lists of %d that differ at %d", n, at)
			}
			b[at] = 0
		}
	}
}

// P9.2: example 1, lists of one number, noughts of both signs, infinities, NaN, what is too great, what is subnormal.
func TestPairExamples(t *testing.T) {
	for _, c := range []struct {
		a, b, add, sub, twice []float64
	}{
		{list(1, 2), list(3, 4), list(4, 6), list(-2, -2), list(5, 8)},
		{list(1), list(1), list(2), list(0), list(3)},
		{list(0, 0, minus0, minus0), list(0, minus0, 0, minus0), list(0, 0, 0, minus0), list(0, 0, minus0, 0), list(0, 0, 0, minus0)},
		{list(1, -1), list(-1, 1), list(0, 0), list(2, -2), list(1, -1)},
		{list(inf, inf, -inf), list(1, inf, inf), list(inf, inf, nan), list(inf, nan, -inf), list(inf, inf, nan)},
		{list(nan, 1), list(1, otherNaN), list(nan, nan), list(nan, nan), list(nan, nan)},
		{list(most, -most, most), list(most, most, -most), list(inf, 0, 0), list(0, -inf, inf), list(inf, -inf, inf)},
		{list(most, 0x1p1023), list(0x1p970, -0x1p1023), list(inf, 0), list(math.Nextafter(most, 0), inf), list(inf, inf)},
		{list(least, normal), list(least, -least), list(2*least, normal-least), list(0, normal+least), list(3*least, 2*normal-least)},
		{list(1, 1), list(u, 3*u), list(1, 1+4*u), list(1-u, 1-3*u), list(2, 2+4*u)},
	} {
		for i, want := range [][]float64{c.add, c.sub, c.twice} {
			if got, e := pairs[i].call(c.a, c.b); e != api.OK || !sameList(got, want) {
				t.Errorf("%s of %x and %x: %x, %v, want %x", pairs[i].name, c.a, c.b, got, e, want)
			}
		}
	}
}

// P9.2: empty lists and none.
func TestPairsOfNone(t *testing.T) {
	for _, p := range pairs {
		for _, a := range [][]float64{nil, {}} {
			for _, b := range [][]float64{nil, {}} {
				if got, e := p.call(a, b); len(got) != 0 || e != api.OK {
					t.Errorf("%s of none: %x, %v", p.name, got, e)
				}
			}
		}
	}
}

// P9.2: at all pairs of edges, at any floats, at lists of all lengths.
func TestPairsToTheBit(t *testing.T) {
	check := func(a, b []float64) {
		t.Helper()
		for _, p := range pairs {
			got, e := p.call(a, b)
			if e != api.OK || len(got) != len(a) {
				t.Errorf("%s: %d numbers of %d, %v", p.name, len(got), len(a), e)
				continue
			}
			for i := range a {
				if want := p.at(a[i], b[i]); !same(got[i], want) {
					t.Errorf("%s of %x and %x: %x, want %x", p.name, a[i], b[i], got[i], want)
				}
			}
		}
	}
	check(allPairs())
	r := rand.New(rand.NewSource(1))
	for n := range 100 {
		check(anyList(r, n), anyList(r, n))
	}
	check(anyList(r, api.MaxVector), anyList(r, api.MaxVector))
}

// P9.2: Axpy's product is rounded by itself, ahead of the sum.
func TestAxpyRoundsTwice(t *testing.T) {
	got, e := vector.Axpy(1+2*u, list(1+2*u, most, -least), list(-1-4*u, -most, least))
	if want := list(0, inf, 0); e != api.OK || !sameList(got, want) {
		t.Errorf("%x, %v, want %x", got, e, want)
	}
	got, e = vector.Axpy(2, list(most), list(-most))
	if e != api.OK || !sameList(got, list(inf)) {
		t.Errorf("too great on the way: %x, %v", got, e)
	}
	got, e = vector.Axpy(0.5, list(least, -least), list(0, 0))
	if e != api.OK || !sameList(got, list(0, 0)) {
		t.Errorf("too little on the way: %x, %v", got, e)
	}
	got, e = vector.Axpy(0.5, list(-least), list(minus0))
	if e != api.OK || !sameList(got, list(minus0)) {
		t.Errorf("to -0 on the way: %x, %v", got, e)
	}
}

// P9.2: example 2, any length, noughts, infinities, NaN, what is too great or too little.
func TestScaleExamples(t *testing.T) {
	for _, c := range []struct {
		t       float64
		x, want []float64
	}{
		{-1, list(0, 1, nan), list(minus0, -1, nan)},
		{2, nil, nil},
		{2, list(), nil},
		{nan, nil, nil},
		{3, list(-5), list(-15)},
		{0, list(1, -1, 0, minus0, inf, -inf, nan), list(0, minus0, 0, minus0, nan, nan, nan)},
		{minus0, list(1, -1, 0, minus0, inf, most), list(minus0, 0, minus0, 0, nan, minus0)},
		{inf, list(1, -1, 0, inf, -inf, least), list(inf, -inf, nan, inf, -inf, inf)},
		{nan, list(0, 1, inf), list(nan, nan, nan)},
		{2, list(most, -0x1p1023, 0x1p1022), list(inf, -inf, 0x1p1023)},
		{0.5, list(least, -least, 3*least, normal), list(0, minus0, 2*least, normal/2)},
		{1 + 2*u, list(1+2*u, 1+4*u), list(1+4*u, 1+6*u)},
	} {
		if got := vector.Scale(c.t, c.x); !sameList(got, c.want) {
			t.Errorf("Scale(%x, %x): %x, want %x", c.t, c.x, got, c.want)
		}
	}
	for _, n := range []int{api.MaxVector, api.MaxVector + 1, 3 * api.MaxVector} {
		if got := vector.Scale(2, slices.Repeat(list(3), n)); !sameList(got, slices.Repeat(list(6), n)) {
			t.Errorf("Scale of %d numbers", n)
		}
	}
}

// P9.2: at all pairs of edges.
func TestScaleToTheBit(t *testing.T) {
	x := pool()
	for _, c := range pool() {
		got := vector.Scale(c, x)
		if len(got) != len(x) {
			t.Fatalf("Scale(%x): %d numbers of %d", c, len(got), len(x))
		}
		for i := range x {
			if want := times(c, x[i]); !same(got[i], want) {
				t.Errorf("Scale(%x, %x): %x, want %x", c, x[i], got[i], want)
			}
		}
	}
}

// P9.2: example 1, the order, products rounded by themselves, the first sum being +0, infinities and NaN.
func TestDotExamples(t *testing.T) {
	for _, c := range []struct {
		a, b []float64
		want float64
	}{
		{list(1, 2), list(3, 4), 11},
		{nil, nil, 0},
		{nil, list(), 0},
		{list(3), list(-5), -15},
		{list(minus0), list(1), 0},
		{list(0), list(-1), 0},
		{list(-least), list(0.5), 0},
		{list(big60, 1, -big60), list(1, 1, 1), 0},
		{list(1, big60, -big60), list(1, 1, 1), 0},
		{list(big60, -big60, 1), list(1, 1, 1), 1},
		{list(1, u, u), list(1, 1, 1), 1},
		{list(u, u, 1), list(1, 1, 1), 1 + 2*u},
		{list(-1, 1+2*u), list(1+4*u, 1+2*u), 0}, // joined it would be 2^-104
		{list(1+2*u, -1), list(1+2*u, 1+4*u), 0},
		{list(most, most), list(2, -2), nan},
		{list(most, most, -most), list(1, 1, 1), inf},
		{list(-most, -most), list(1, 1), -inf},
		{list(inf, 1), list(1, 1), inf},
		{list(inf), list(0), nan},
		{list(inf, inf), list(1, -1), nan},
		{list(1, nan), list(1, 1), nan},
		{list(0, 1), list(otherNaN, 1), nan},
		{list(least, least), list(1, 1), 2 * least},
		{list(least), list(0.75), least},
	} {
		if got, e := vector.Dot(c.a, c.b); !same(got, c.want) || e != api.OK {
			t.Errorf("Dot(%x, %x): %x, %v, want %x", c.a, c.b, got, e, c.want)
		}
	}
}

// P9.2, P9.4: each operation as the chapter tells it; which list is which does not count.
func TestDotToTheBit(t *testing.T) {
	check := func(a, b []float64) {
		t.Helper()
		want := 0.0
		for i := range a {
			want = plus(want, times(a[i], b[i]))
		}
		if got, e := vector.Dot(a, b); !same(got, want) || e != api.OK {
			t.Errorf("Dot(%x, %x): %x, %v, want %x", a, b, got, e, want)
		}
		if got, e := vector.Dot(b, a); !same(got, want) || e != api.OK {
			t.Errorf("Dot(%x, %x): %x, %v, want %x", b, a, got, e, want)
		}
	}
	a, b := allPairs()
	for i := range a {
		check(list(1, a[i]), list(-1, b[i]))
		check(a[i:i+1], b[i:i+1])
	}
	r := rand.New(rand.NewSource(2))
	for n := range 1000 {
		check(finiteList(r, n%40), finiteList(r, n%40))
		check(anyList(r, n%10), anyList(r, n%10))
	}
	for range 20 {
		long := make([]float64, api.MaxVector)
		for i := range long {
			long[i] = r.Float64() - 0.5
		}
		check(long, finiteList(r, api.MaxVector))
		check(long, slices.Repeat(list(0.1), api.MaxVector))
	}
}

// P9.2: what is refused, ErrShape ahead of ErrLong, and nothing beside it.
func TestErrors(t *testing.T) {
	refused := func(a, b []float64, want api.Errno) {
		t.Helper()
		for _, p := range pairs {
			if got, e := p.call(a, b); e != want || len(got) != 0 {
				t.Errorf("%s of %d and %d: %d numbers, %v, want %v", p.name, len(a), len(b), len(got), e, want)
			}
		}
		if got, e := vector.Dot(a, b); e != want || !same(got, 0) {
			t.Errorf("Dot of %d and %d: %x, %v, want %v", len(a), len(b), got, e, want)
		}
	}
	most, more := slices.Repeat(list(1), api.MaxVector), slices.Repeat(list(1), api.MaxVector+1)
	for _, c := range [][2][]float64{{{1}, nil}, {{1}, {}}, {{1, 2}, {1}}, {{nan}, {}}, {most, most[1:]}, {more, most}, {more, nil}, {append(more, 1), more}} {
		refused(c[0], c[1], api.ErrShape)
		refused(c[1], c[0], api.ErrShape)
	}
	refused(more, more, api.ErrLong)
	refused(more, slices.Repeat(list(nan), api.MaxVector+1), api.ErrLong)
	refused(make([]float64, 1<<18), make([]float64, 1<<18), api.ErrLong)
}

// P9.2: lists of MaxVector numbers are not too long.
func TestLongestLists(t *testing.T) {
	most := slices.Repeat(list(2), api.MaxVector)
	for i, want := range list(4, 0, 6) {
		if got, e := pairs[i].call(most, most); e != api.OK || !sameList(got, slices.Repeat(list(want), api.MaxVector)) {
			t.Errorf("%s: %d numbers, %v", pairs[i].name, len(got), e)
		}
	}
	if got, e := vector.Dot(most, most); got != 4*api.MaxVector || e != api.OK {
		t.Errorf("Dot: %x, %v", got, e)
	}
}

// P9.3: example 3, and noughts, infinities, NaN wherever it stands, what is too great, what is subnormal.
func TestNormExamples(t *testing.T) {
	for _, c := range []struct {
		x    []float64
		want float64
	}{
		{list(3, -4), 7},
		{nil, 0},
		{list(), 0},
		{list(1, 0x1p-60), 1 + 0x1p-52},
		{list(0x1p-60, 1), 1 + 0x1p-52},
		{list(-1, -0x1p-60), 1 + 0x1p-52},
		{list(1, least, least), 1 + 0x1p-51},
		{list(least, least, 1), 1 + 0x1p-52},
		{list(inf, nan), nan},
		{list(nan, inf), nan},
		{list(nan, -inf), nan},
		{list(-inf, otherNaN, 1), nan},
		{list(nan), nan},
		{list(1, nan, 2), nan},
		{list(inf), inf},
		{list(-inf, 1), inf},
		{list(inf, -inf), inf},
		{list(0), 0},
		{list(minus0), 0},
		{list(minus0, minus0), 0},
		{list(-5), 5},
		{list(-least), least},
		{list(least, -3*least), 4 * least},
		{list(normal-least, least), normal},
		{list(most), most},
		{list(-most, 0), most},
		{list(most, least), inf},
		{list(0x1p1023, -0x1p1023), inf},
		{list(most, most, nan), nan},
	} {
		if got := vector.Norm(c.x); !same(got, c.want) {
			t.Errorf("Norm of %x: %x, want %x", c.x, got, c.want)
		}
	}
}

// P9.3: each sum rounded up, in order, at lists of any length.
func TestNormToTheBit(t *testing.T) {
	check := func(l []float64) {
		t.Helper()
		want := 0.0
		for _, x := range l {
			switch {
			case x != x || want != want:
				want = nan
			case !finite(x) || !finite(want):
				want = inf
			default:
				want = roundedUp(exact(0).Add(exact(want), exact(math.Abs(x))))
			}
		}
		if got := vector.Norm(l); !same(got, want) {
			t.Errorf("Norm of %x: %x, want %x", l, got, want)
		}
	}
	a, b := allPairs()
	for i := range a {
		check(list(a[i], b[i]))
		check(list(a[i], b[i], -0.1))
	}
	r := rand.New(rand.NewSource(3))
	for n := range 1000 {
		check(finiteList(r, n%50))
		check(anyList(r, n%10))
	}
	check(slices.Repeat(list(-0.1), api.MaxVector+1))
}

// P9.3: example 4, the first of several, noughts, infinities, NaN.
func TestMostExamples(t *testing.T) {
	for _, c := range []struct {
		x    []float64
		at   int
		size float64
	}{
		{list(3, -4, 4), 1, 4},
		{list(3, 4, -4), 1, 4},
		{list(nan, minus0), 1, 0},
		{list(nan, 0), 1, 0},
		{list(nan), -1, 0},
		{list(nan, otherNaN), -1, 0},
		{nil, -1, 0},
		{list(), -1, 0},
		{list(0), 0, 0},
		{list(minus0), 0, 0},
		{list(0, minus0), 0, 0},
		{list(minus0, 0), 0, 0},
		{list(minus0, nan, 0), 0, 0},
		{list(-7), 0, 7},
		{list(7, 7, 7), 0, 7},
		{list(1, -2, 2, 1, -2), 1, 2},
		{list(0, 0, -least, least), 2, least},
		{list(minus0, normal-least, -normal), 2, normal},
		{list(1, 1+2*u, 1), 1, 1 + 2*u},
		{list(inf, nan), 0, inf},
		{list(nan, -inf), 1, inf},
		{list(most, -inf, inf), 1, inf},
		{list(-most, most), 0, most},
		{list(1, nan, 3, nan, 2), 2, 3},
		{list(5, nan), 0, 5},
		{list(nan, 2, nan, -2), 1, 2},
	} {
		if at, size := vector.Most(c.x); at != c.at || !same(size, c.size) {
			t.Errorf("Most of %x: %d, %x, want %d, %x", c.x, at, size, c.at, c.size)
		}
	}
}

// P9.3: no size is above the one told, none ahead of it is as great; at lists of any length.
func TestMostIsFirst(t *testing.T) {
	r := rand.New(rand.NewSource(4))
	for n := range 4000 {
		l := anyList(r, n%30)
		for i := range l {
			if r.Intn(3) == 0 {
				l[i] = list(nan, 0, minus0, 20, -20, inf, -inf)[r.Intn(5+n%3)]
			}
		}
		at, size := vector.Most(l)
		if at < 0 {
			if !same(size, 0) || slices.ContainsFunc(l, func(x float64) bool { return x == x }) {
				t.Errorf("Most of %x: %d, %x", l, at, size)
			}
			continue
		}
		if !same(size, math.Abs(l[at])) {
			t.Errorf("Most of %x: %d, %x", l, at, size)
		}
		for i, x := range l {
			if math.Abs(x) > size || math.Abs(x) == size && i < at {
				t.Errorf("Most of %x: %d, %x; at %d: %x", l, at, size, i, x)
			}
		}
	}
	long := make([]float64, 3*api.MaxVector)
	long[api.MaxVector+1] = -1
	if at, size := vector.Most(long); at != api.MaxVector+1 || size != 1 {
		t.Errorf("Most of a long list: %d, %x", at, size)
	}
}

// P9.4: Norm is not less than the exact sum of the sizes, and above it by at most 2^-39 of it; what Most tells is not above Norm.
func TestNormIsNear(t *testing.T) {
	check := func(l []float64) {
		t.Helper()
		norm, sizes := vector.Norm(l), exactSizes(l)
		if exact(norm).Cmp(sizes) < 0 {
			t.Errorf("Norm of %d: %x, less than %g", len(l), norm, sizes)
		}
		if _, size := vector.Most(l); size > norm {
			t.Errorf("Norm of %d: %x, less than %x", len(l), norm, size)
		}
		bound := exact(0).Add(sizes, exact(0).Mul(sizes, exact(0x1p-39)))
		if finite(norm) && exact(norm).Cmp(bound) > 0 {
			t.Errorf("Norm of %d: %x, too far above %g", len(l), norm, sizes)
		}
	}
	for _, x := range pool() {
		for _, y := range pool() {
			if finite(x) && finite(y) {
				check(list(x, y))
				check(append(slices.Repeat(list(y), api.MaxVector-1), x))
				check(append(list(x), slices.Repeat(list(y), api.MaxVector-1)...))
			}
		}
	}
	r := rand.New(rand.NewSource(5))
	for n := range 1000 {
		check(finiteList(r, n%60))
	}
	for range 20 {
		long := make([]float64, api.MaxVector)
		for i := range long {
			long[i] = math.Ldexp(r.Float64()-0.5, r.Intn(40))
		}
		check(long)
	}
}

// P9.4: the size that Most tells is not above Norm where NaN is not there, infinities too.
func TestMostIsNotAboveNorm(t *testing.T) {
	a, b := allPairs()
	for i := range a {
		l := list(a[i], b[i])
		norm := vector.Norm(l)
		if _, size := vector.Most(l); norm == norm && size > norm {
			t.Errorf("%x: Most %x, Norm %x", l, size, norm)
		}
	}
}

// P9.4: Axpy with 1 is Add, with -1 it is y - x.
func TestAxpyIsAddAndSub(t *testing.T) {
	check := func(a, b []float64) {
		t.Helper()
		sum, _ := vector.Add(a, b)
		if got, e := vector.Axpy(1, a, b); e != api.OK || !sameList(got, sum) {
			t.Errorf("Axpy with 1 of %x and %x: %x, %v, want %x", a, b, got, e, sum)
		}
		rest, _ := vector.Sub(b, a)
		if got, e := vector.Axpy(-1, a, b); e != api.OK || !sameList(got, rest) {
			t.Errorf("Axpy with -1 of %x and %x: %x, %v, want %x", a, b, got, e, rest)
		}
	}
	check(allPairs())
	r := rand.New(rand.NewSource(6))
	for n := range 200 {
		check(anyList(r, n), anyList(r, n))
	}
}

// R3: lists are left as they are, their spare room too, even where they share memory; answers are new.
func TestListsAreLeft(t *testing.T) {
	before := list(1, -2, 3, -4, 5, 6)
	room := slices.Clone(before)
	for _, c := range [][2][]float64{{room[:3], room[:3]}, {room[:3], room[1:4]}, {room[2:5], room[:3]}, {room[:0], room[3:3]}, {room, room}} {
		a, b := c[0], c[1]
		apart, other := slices.Clone(a), slices.Clone(b)
		for _, p := range pairs {
			got, e := p.call(a, b)
			want, _ := p.call(apart, other)
			if e != api.OK || !sameList(got, want) {
				t.Errorf("%s of %x and %x: %x, %v, want %x", p.name, a, b, got, e, want)
			}
			scribble(got)
		}
		scribble(vector.Scale(2, a))
		vector.Same(a, b)
		vector.Dot(a, b)
		vector.Norm(a)
		vector.Most(a)
		if !slices.Equal(room, before) {
			t.Fatalf("changed: %x", room)
		}
	}
}

// scribble writes all over a list that was handed out, and its spare room.
func scribble(l []float64) {
	for i := range l[:cap(l)] {
		l[:cap(l)][i] = 99
	}
}

// R3, R4: no two answers share memory, and what is done with one leaves the next as it is.
func TestAnswersAreApart(t *testing.T) {
	a, b := list(1, 2, 3), list(4, 5, 6)
	for _, p := range pairs[:3] {
		first, _ := p.call(a, b)
		want := slices.Clone(first)
		second, _ := p.call(a, b)
		scribble(first)
		if third, _ := p.call(a, b); !sameList(second, want) || !sameList(third, want) {
			t.Errorf("%s: %x, %x, want %x", p.name, second, third, want)
		}
	}
	first, second := vector.Scale(2, a), vector.Scale(2, a)
	scribble(first)
	if !slices.Equal(second, list(2, 4, 6)) || !slices.Equal(vector.Scale(2, a), list(2, 4, 6)) {
		t.Errorf("Scale: %x", second)
	}
}

// R7: each operation stands in a conversion, so that no machine joins two of them.
func TestNotJoined(t *testing.T) {
	file, err := parser.ParseFile(token.NewFileSet(), "vector.go", nil, 0)
	if err != nil {
		t.Fatal(err)
	}
	alone := map[ast.Expr]bool{}
	ast.Inspect(file, func(n ast.Node) bool {
		switch x := n.(type) {
		case *ast.CallExpr:
			if f, ok := x.Fun.(*ast.Ident); ok && f.Name == "float64" {
				alone[x.Args[0]] = true
			}
		case *ast.BinaryExpr:
			if (x.Op == token.ADD || x.Op == token.SUB || x.Op == token.MUL) && !alone[x] {
				t.Errorf("an operation stands alone at byte %d", x.Pos())
			}
		case *ast.AssignStmt:
			if x.Tok != token.ASSIGN && x.Tok != token.DEFINE {
				t.Errorf("an operation stands alone at byte %d", x.Pos())
			}
		}
		return true
	})
}
