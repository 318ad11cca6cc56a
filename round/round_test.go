package round_test

import (
	"math"
	"math/big"
	"math/rand"
	"testing"

	"girder/api"
	"girder/bits"
	"girder/round"
)

const (
	least  = 0x1p-1074
	normal = 0x1p-1022
	most   = math.MaxFloat64
	ulp    = 0x1p-52
)

var (
	minus0 = math.Copysign(0, -1)
	inf    = math.Inf(1)
	nan    = math.NaN()
	modes  = []api.Mode{api.Nearest, api.Down, api.Up, api.Zero}
	others = []api.Mode{-128, -1, 4, 99, 127} // no ways of rounding: they count as Nearest
)

func same(a, b float64) bool {
	return math.Float64bits(a) == math.Float64bits(b) || a != a && b != b
}

// by is one call at given floats, by any mode.
type by func(m api.Mode) float64

func add(a, b float64) by      { return func(m api.Mode) float64 { return round.Add(a, b, m) } }
func sub(a, b float64) by      { return func(m api.Mode) float64 { return round.Sub(a, b, m) } }
func mul(a, b float64) by      { return func(m api.Mode) float64 { return round.Mul(a, b, m) } }
func div(a, b float64) by      { return func(m api.Mode) float64 { return round.Div(a, b, m) } }
func root(a float64) by        { return func(m api.Mode) float64 { return round.Sqrt(a, m) } }
func fused(a, b, c float64) by { return func(m api.Mode) float64 { return round.Fused(a, b, c, m) } }
func whole(n int64) by         { return func(m api.Mode) float64 { return round.Int(n, m) } }

// one is a call, and what it must tell by Nearest, Down, Up, Zero.
type one struct {
	what string
	call by
	want [4]float64
}

func all(x float64) [4]float64 { return [4]float64{x, x, x, x} }

// run checks each call by each mode, and by what is none.
func run(t *testing.T, list []one) {
	t.Helper()
	for _, o := range list {
		for i, m := range modes {
			if got := o.call(m); !same(got, o.want[i]) {
				t.Errorf("%s by %d: %x, want %x", o.what, m, got, o.want[i])
			}
		}
		for _, m := range others {
			if got := o.call(m); !same(got, o.want[0]) {
				t.Errorf("%s by %d: %x, want %x as by Nearest", o.what, m, got, o.want[0])
			}
		}
	}
}

// P3.1: the chapter's examples, and answers at the ends of what floats hold.
func TestExamples(t *testing.T) {
	third := math.Ldexp(6004799503160661, -54)
	two := math.Ldexp(6369051672525772, -52)
	run(t, []one{
		{"1 + u", add(1, ulp/2), [4]float64{1, 1, 1 + ulp, 1}},
		{"-1 - u", add(-1, -ulp/2), [4]float64{-1, -1 - ulp, -1, -1}},
		{"1 - 1", add(1, -1), [4]float64{0, minus0, 0, 0}},
		{"-0 + -0", add(minus0, minus0), all(minus0)},
		{"M + M", add(most, most), [4]float64{inf, most, inf, most}},
		{"-M - M", add(-most, -most), [4]float64{-inf, -inf, -most, -most}},
		{"e / 2", mul(least, 0.5), [4]float64{0, 0, least, 0}},
		{"-e / 2", mul(-least, 0.5), [4]float64{minus0, -least, minus0, minus0}},
		{"0 times -3", mul(0, -3), all(minus0)},
		{"(1 + 2u) squared", mul(1+ulp, 1+ulp), [4]float64{1 + 2*ulp, 1 + 2*ulp, 1 + 3*ulp, 1 + 2*ulp}},
		{"1 over 3", div(1, 3), [4]float64{third, third, math.Ldexp(6004799503160662, -54), third}},
		{"1 over -0", div(1, minus0), all(-inf)},
		{"0 over 0", div(0, 0), all(nan)},
		{"e over M", div(least, most), [4]float64{0, 0, least, 0}},
		{"-e over M", div(-least, most), [4]float64{minus0, -least, minus0, minus0}},
		{"root of 2", root(2), [4]float64{two + ulp, two, two + ulp, two}},
		{"root of 4", root(4), all(2)},
		{"root of -0", root(minus0), all(minus0)},
		{"root of -e", root(-least), all(nan)},
		{"root of e", root(least), all(0x1p-537)},
		{"(1 + 2u)(1 - 2u) - 1", fused(1+ulp, 1-ulp, -1), all(-0x1p-104)},
		{"0 5 + -0", fused(0, 5, minus0), [4]float64{0, minus0, 0, 0}},
		{"0 -5 + -0", fused(0, -5, minus0), all(minus0)},
		{"M M - Inf", fused(most, most, -inf), all(-inf)},
		{"2^53 + 1", whole(1<<53 + 1), [4]float64{1 << 53, 1 << 53, 1<<53 + 2, 1 << 53}},
	})
}

// P3.1: what is too great, and what is too little.
func TestEnds(t *testing.T) {
	half := 0x1p970 // of the last bit of the greatest float: from M + half on Nearest tells the infinity
	below := most - 0x1p971
	run(t, []one{
		{"M + just under a half", add(most, math.Nextafter(half, 0)), [4]float64{most, most, inf, most}},
		{"M + a half", add(most, half), [4]float64{inf, most, inf, most}},
		{"-M - a half", sub(-most, half), [4]float64{-inf, -inf, -most, -most}},
		{"M - e", sub(most, least), [4]float64{most, below, most, below}},
		{"e - M", sub(least, most), [4]float64{-most, -most, -below, -below}},
		{"M times 1 + 2u", mul(most, 1+ulp), [4]float64{inf, most, inf, most}},
		{"M times -M", mul(most, -most), [4]float64{-inf, -inf, -most, -most}},
		{"M over 1 - u", div(most, 1-ulp/2), [4]float64{inf, most, inf, most}},
		{"M over -e", div(most, -least), [4]float64{-inf, -inf, -most, -most}},
		{"e e", mul(least, least), [4]float64{0, 0, least, 0}},
		{"-e e", mul(-least, least), [4]float64{minus0, -least, minus0, minus0}},
		{"e times 3/4", mul(least, 0.75), [4]float64{least, 0, least, 0}},
		{"-e times 3/4", mul(-least, 0.75), [4]float64{-least, -least, minus0, minus0}},
		{"e times 3/2", mul(least, 1.5), [4]float64{2 * least, least, 2 * least, least}},
		{"3e over 2", div(3*least, 2), [4]float64{2 * least, least, 2 * least, least}},
		{"3e over -2", div(3*least, -2), [4]float64{-2 * least, -2 * least, -least, -least}},
		{"-3e over -4", div(-3*least, -4), [4]float64{least, 0, least, 0}},
		{"the greatest subnormal, and a quarter of e", fused(least, 0.25, normal-least), [4]float64{normal - least, normal - least, normal, normal - least}},
		{"e e - e", fused(least, least, -least), [4]float64{-least, -least, minus0, minus0}},
		{"-e e + e", fused(-least, least, least), [4]float64{least, 0, least, 0}},
		{"e e + 1", fused(least, least, 1), [4]float64{1, 1, 1 + ulp, 1}},
		{"-e e + 1", fused(-least, least, 1), [4]float64{1, 1 - ulp/2, 1, 1 - ulp/2}},
		{"2 M - M", fused(2, most, -most), all(most)},
		{"2 M - e", fused(2, most, -least), [4]float64{inf, most, inf, most}},
		{"M M - M", fused(most, most, -most), [4]float64{inf, most, inf, most}},
		{"-M M + M", fused(-most, most, most), [4]float64{-inf, -inf, -most, -most}},
		{"M 1 + a half - e", fused(most, 1, math.Nextafter(half, 0)), [4]float64{most, most, inf, most}},
		{"root of M", root(most), [4]float64{0x1p512 * (1 - ulp/2), 0x1p512 * (1 - ulp/2), 0x1p512, 0x1p512 * (1 - ulp/2)}},
		{"the greatest int64", whole(math.MaxInt64), [4]float64{1 << 63, 1<<63 - 1024, 1 << 63, 1<<63 - 1024}},
		{"the least int64", whole(math.MinInt64), all(-1 << 63)},
		{"the least but one", whole(math.MinInt64 + 1), [4]float64{-1 << 63, -1 << 63, -1<<63 + 1024, -1<<63 + 1024}},
		{"-2^53 - 1", whole(-1<<53 - 1), [4]float64{-1 << 53, -1<<53 - 2, -1 << 53, -1 << 53}},
		{"2^53 + 3", whole(1<<53 + 3), [4]float64{1<<53 + 4, 1<<53 + 2, 1<<53 + 4, 1<<53 + 2}},
		{"-7", whole(-7), all(-7)},
	})
}

// P3.2: exact answers that are 0.
func TestNoughts(t *testing.T) {
	unlike := [4]float64{0, minus0, 0, 0}
	run(t, []one{
		{"0 + 0", add(0, 0), all(0)},
		{"0 + -0", add(0, minus0), unlike},
		{"-0 + 0", add(minus0, 0), unlike},
		{"-0 + -0", add(minus0, minus0), all(minus0)},
		{"0 - 0", sub(0, 0), unlike},
		{"0 - -0", sub(0, minus0), all(0)},
		{"-0 - 0", sub(minus0, 0), all(minus0)},
		{"-0 - -0", sub(minus0, minus0), unlike},
		{"-M + M", add(-most, most), unlike},
		{"e - e", sub(least, least), unlike},
		{"0 0", mul(0, 0), all(0)},
		{"-0 0", mul(minus0, 0), all(minus0)},
		{"-0 -0", mul(minus0, minus0), all(0)},
		{"M -0", mul(most, minus0), all(minus0)},
		{"-e -0", mul(-least, minus0), all(0)},
		{"0 over M", div(0, most), all(0)},
		{"0 over -e", div(0, -least), all(minus0)},
		{"-0 over 5", div(minus0, 5), all(minus0)},
		{"-0 over -5", div(minus0, -5), all(0)},
		{"root of 0", root(0), all(0)},
		{"root of -0", root(minus0), all(minus0)},
		{"0 0 + 0", fused(0, 0, 0), all(0)},
		{"0 0 + -0", fused(0, 0, minus0), unlike},
		{"-0 0 + 0", fused(minus0, 0, 0), unlike},
		{"-0 0 + -0", fused(minus0, 0, minus0), all(minus0)},
		{"-0 -7 + 0", fused(minus0, -7, 0), all(0)},
		{"-0 -7 + -0", fused(minus0, -7, minus0), unlike},
		{"2 3 - 6", fused(2, 3, -6), unlike},
		{"-2 3 + 6", fused(-2, 3, 6), unlike},
		{"e 1 - e", fused(least, 1, -least), unlike},
		{"-e 1 + e", fused(-least, 1, least), unlike},
		{"2 e - 2 e", fused(2, least, -2*least), unlike},
		{"M -1 + M", fused(most, -1, most), unlike},
		{"0 5 + 3", fused(0, 5, 3), all(3)},
		{"-0 5 - e", fused(minus0, 5, -least), all(-least)},
		{"0", whole(0), all(0)},
	})
}

// P3.3: NaN and infinities, in which no way of rounding plays a part.
func TestNoFinite(t *testing.T) {
	run(t, []one{
		{"Inf + Inf", add(inf, inf), all(inf)},
		{"-Inf + -Inf", add(-inf, -inf), all(-inf)},
		{"Inf + -Inf", add(inf, -inf), all(nan)},
		{"Inf - Inf", sub(inf, inf), all(nan)},
		{"-Inf - Inf", sub(-inf, inf), all(-inf)},
		{"M - Inf", sub(most, inf), all(-inf)},
		{"-Inf + M", add(-inf, most), all(-inf)},
		{"Inf + -0", add(inf, minus0), all(inf)},
		{"Inf Inf", mul(inf, inf), all(inf)},
		{"-Inf e", mul(-inf, least), all(-inf)},
		{"-3 -Inf", mul(-3, -inf), all(inf)},
		{"Inf 0", mul(inf, 0), all(nan)},
		{"-0 Inf", mul(minus0, inf), all(nan)},
		{"Inf over -Inf", div(inf, -inf), all(nan)},
		{"0 over -0", div(0, minus0), all(nan)},
		{"Inf over -3", div(inf, -3), all(-inf)},
		{"-Inf over -0", div(-inf, minus0), all(inf)},
		{"-Inf over 0", div(-inf, 0), all(-inf)},
		{"e over 0", div(least, 0), all(inf)},
		{"-M over 0", div(-most, 0), all(-inf)},
		{"M over -Inf", div(most, -inf), all(minus0)},
		{"-e over -Inf", div(-least, -inf), all(0)},
		{"0 over Inf", div(0, inf), all(0)},
		{"-0 over Inf", div(minus0, inf), all(minus0)},
		{"root of Inf", root(inf), all(inf)},
		{"root of -Inf", root(-inf), all(nan)},
		{"root of -1", root(-1), all(nan)},
		{"root of NaN", root(nan), all(nan)},
		{"Inf 0 + NaN", fused(inf, 0, nan), all(nan)},
		{"Inf 0 + Inf", fused(inf, 0, inf), all(nan)},
		{"0 -Inf + 1", fused(0, -inf, 1), all(nan)},
		{"Inf -2 + M", fused(inf, -2, most), all(-inf)},
		{"Inf -2 + Inf", fused(inf, -2, inf), all(nan)},
		{"Inf 2 + Inf", fused(inf, 2, inf), all(inf)},
		{"M M - Inf", fused(most, most, -inf), all(-inf)},
		{"M -M + Inf", fused(most, -most, inf), all(inf)},
		{"0 0 + -Inf", fused(0, 0, -inf), all(-inf)},
		{"M M + NaN", fused(most, most, nan), all(nan)},
		{"0 0 + NaN", fused(0, 0, nan), all(nan)},
	})
	for _, x := range pool() {
		run(t, []one{
			{"NaN +", add(nan, x), all(nan)}, {"+ NaN", add(x, nan), all(nan)},
			{"NaN -", sub(nan, x), all(nan)}, {"- NaN", sub(x, nan), all(nan)},
			{"NaN times", mul(nan, x), all(nan)}, {"times NaN", mul(x, nan), all(nan)},
			{"NaN over", div(nan, x), all(nan)}, {"over NaN", div(x, nan), all(nan)},
			{"fused NaN first", fused(nan, x, 1), all(nan)}, {"fused NaN second", fused(x, nan, x), all(nan)}, {"fused NaN third", fused(1, x, nan), all(nan)},
		})
	}
}

// pool is floats at all edges, of both signs.
func pool() []float64 {
	out := []float64{nan}
	for _, x := range []float64{
		0, least, 2 * least, 3 * least, normal - least, normal, normal + least, 2 * normal,
		0x1p-1000, 0x1p-960, 0x1p-900, math.Nextafter(0x1p-900, 0), math.Nextafter(0x1p-900, 1), 0x1p-537, 0x1p-450, 0x1.8p-450, 0x1p-54, 0x1p-53, 0x1p-52,
		0.1, 0.5, 1 - ulp/2, 1, 1 + ulp, 1.5, 3, 10, 1 << 53, 0x1p500, 0x1.0000000000001p500, 0x1p512,
		0x1p970, 0x1p971, 0x1p1000, math.Nextafter(0x1p1000, 0), math.Nextafter(0x1p1000, inf), 0x1p1023, most / 2, math.Nextafter(most, 0), most, inf,
	} {
		out = append(out, x, -x)
	}
	return out
}

// anyFloat is floats of all sizes, the same ones at each run: all bits at random, few bits, or near 1.
func anyFloat(r *rand.Rand) float64 {
	x := math.Float64frombits(r.Uint64())
	switch r.Intn(4) {
	case 0:
		x = float64(r.Intn(1<<r.Intn(20))) * math.Ldexp(1, r.Intn(2200)-1100)
	case 1:
		x = 1 + float64(r.Intn(1<<20)-1<<19)*ulp
	case 2:
		x = math.Ldexp(1+float64(r.Int63n(1<<52))*ulp, r.Intn(200)-100)
	}
	if r.Intn(2) == 0 {
		x = -x
	}
	return x
}

func finite(list ...float64) bool {
	for _, x := range list {
		if math.IsNaN(x) || math.IsInf(x, 0) {
			return false
		}
	}
	return true
}

// exactBits is enough for every sum and product that is reckoned here.
const exactBits = 4400

func exact(x float64) *big.Float { return new(big.Float).SetPrec(exactBits).SetFloat64(x) }
func plus(a, b *big.Float) *big.Float {
	return new(big.Float).SetPrec(exactBits).Add(a, b)
}
func times(a, b *big.Float) *big.Float {
	return new(big.Float).SetPrec(exactBits).Mul(a, b)
}

// against tells whether an exact number is below, at or above x.
type against func(x *big.Float) int

func againstSum(a, b, c float64) against {
	v := plus(times(exact(a), exact(b)), exact(c))
	return func(x *big.Float) int { return v.Cmp(x) }
}

func againstQuotient(a, b float64) against {
	return func(x *big.Float) int {
		c := exact(a).Cmp(times(x, exact(b)))
		if b < 0 {
			return -c
		}
		return c
	}
}

func againstRoot(a float64) against {
	return func(x *big.Float) int {
		if x.Sign() < 0 {
			return 1
		}
		return exact(a).Cmp(times(x, x))
	}
}

// rounded is what DOC.md says of an exact number other than 0, found by halving all floats, not by any rounding.
func rounded(c against, m api.Mode) float64 {
	low, high := int64(-0x7ff0000000000000), int64(0x7ff0000000000000) // the places of both infinities
	neg := c(exact(0)) < 0
	for uint64(high)-uint64(low) > 1 {
		mid := low/2 + high/2 + (low%2+high%2)/2
		x, _ := bits.At(mid)
		switch c(exact(x)) {
		case 0:
			return x
		case 1:
			low = mid
		default:
			high = mid
		}
	}
	down, _ := bits.At(low)
	up, _ := bits.At(high)
	if neg {
		up = math.Copysign(up, -1)
	}
	if m == api.Down || m == api.Zero && !neg {
		return down
	}
	if m == api.Up || m == api.Zero {
		return up
	}
	return nearest(c, down, up, low)
}

// nearest chooses between two floats next to each other; an infinity counts as the power of two at its place.
func nearest(c against, down, up float64, low int64) float64 {
	a, b := ends(down), ends(up)
	middle := times(plus(a, b), exact(0.5))
	switch c(middle) {
	case -1:
		return down
	case 1:
		return up
	}
	if low%2 == 0 {
		return down
	}
	return up
}

func ends(x float64) *big.Float {
	if math.IsInf(x, 0) {
		return times(exact(math.Copysign(0x1p1023, x)), exact(2))
	}
	return exact(x)
}

// agree checks a call by each mode against the exact number; where that is 0 other tests tell what it must be.
func agree(t *testing.T, what string, call by, c against, at ...float64) {
	t.Helper()
	if c(exact(0)) == 0 {
		return
	}
	for _, m := range modes {
		if got, want := call(m), rounded(c, m); !same(got, want) {
			t.Fatalf("%s of %x by %d: %x, want %x", what, at, m, got, want)
		}
	}
	if got, want := call(77), call(api.Nearest); !same(got, want) {
		t.Fatalf("%s of %x by 77: %x, want %x", what, at, got, want)
	}
}

// agreePair checks all calls of two floats.
func agreePair(t *testing.T, a, b float64) {
	t.Helper()
	if !finite(a, b) {
		return
	}
	agree(t, "Add", add(a, b), againstSum(a, 1, b), a, b)
	agree(t, "Sub", sub(a, b), againstSum(a, 1, -b), a, b)
	agree(t, "Mul", mul(a, b), againstSum(a, b, 0), a, b)
	if b != 0 {
		agree(t, "Div", div(a, b), againstQuotient(a, b), a, b)
	}
	if a > 0 {
		agree(t, "Sqrt", root(a), againstRoot(a), a)
	}
}

// P3.1: against exact numbers, at all pairs of edges.
func TestEdgePairs(t *testing.T) {
	for _, a := range pool() {
		for _, b := range pool() {
			agreePair(t, a, b)
		}
	}
}

// P3.1: against exact numbers, at floats of all sizes.
func TestManyPairs(t *testing.T) {
	r := rand.New(rand.NewSource(3))
	for range 3000 {
		agreePair(t, anyFloat(r), anyFloat(r))
	}
}

// P3.1: quotients and roots that are floats, or lie a hair beside one, wherever they stand.
func TestHairs(t *testing.T) {
	r := rand.New(rand.NewSource(4))
	for range 500 {
		q := float64(r.Intn(1<<26)|1) * math.Ldexp(1, r.Intn(900)-500)
		b := float64(r.Intn(1<<26)|1) * math.Ldexp(1, r.Intn(900)-500)
		for _, a := range []float64{q * b, math.Nextafter(q*b, 0), math.Nextafter(q*b, inf)} {
			agreePair(t, a, b)
			agreePair(t, a, -q)
		}
		for _, a := range []float64{q * q, math.Nextafter(q*q, 0), math.Nextafter(q*q, inf)} {
			agreePair(t, a, q)
		}
	}
}

func agreeFused(t *testing.T, a, b, c float64) {
	t.Helper()
	if finite(a, b, c) {
		agree(t, "Fused", fused(a, b, c), againstSum(a, b, c), a, b, c)
	}
}

// P3.1: Fused at edges.
func TestEdgeFused(t *testing.T) {
	edges := []float64{least, 3 * least, normal - least, normal, 0x1p-900, 0x1.fp-901, 0x1p-537, 0x1p-53, 0.1, 1 - ulp/2, 1, 1 + ulp, 3, 0x1p512, 0x1.1p999, 0x1p1000, 0x1p1001, most}
	for _, a := range edges {
		for _, b := range edges {
			for _, c := range edges {
				agreeFused(t, a, b, c)
				agreeFused(t, -a, b, c)
				agreeFused(t, a, b, -c)
			}
		}
	}
}

// P3.1: Fused at floats of all sizes, and where the product is nearly -c, or each stands just within the other's last bits.
func TestManyFused(t *testing.T) {
	r := rand.New(rand.NewSource(5))
	for range 1200 {
		a, b := anyFloat(r), anyFloat(r)
		agreeFused(t, a, b, anyFloat(r))
		p := a * b
		agreeFused(t, a, b, -p)
		agreeFused(t, a, b, math.Nextafter(-p, inf))
		agreeFused(t, a, b, p*math.Ldexp(1, r.Intn(240)-120))
		agreeFused(t, a, b, -p*math.Ldexp(1+float64(r.Intn(4))*ulp, r.Intn(240)-120))
		agreeFused(t, a, b, math.FMA(a, b, -p)*float64(r.Intn(9)-4))
	}
}

// P3.1: whole numbers.
func TestManyInts(t *testing.T) {
	r := rand.New(rand.NewSource(6))
	for range 3000 {
		n := int64(r.Uint64()) >> r.Intn(64)
		v := new(big.Float).SetPrec(exactBits).SetInt64(n)
		agree(t, "Int", whole(n), func(x *big.Float) int { return v.Cmp(x) }, float64(n))
	}
}

// turned has the signs of what is told turned, and Down and Up change places.
func turned(call by) by {
	return func(m api.Mode) float64 {
		switch m {
		case api.Down:
			m = api.Up
		case api.Up:
			m = api.Down
		}
		return -call(m)
	}
}

// sides checks P3.4 of one call: Down, Nearest, Up stand in order, no float between, and Zero is the nearer one to 0.
func sides(t *testing.T, what string, call by, at ...float64) {
	t.Helper()
	near, down, up, zero := call(api.Nearest), call(api.Down), call(api.Up), call(api.Zero)
	if math.IsNaN(near) {
		return
	}
	n, ok := bits.Between(down, up)
	if !ok || n > 1 || down > near || near > up {
		t.Fatalf("%s of %x: %x, %x, %x do not stand in order", what, at, down, near, up)
	}
	inner := down
	if math.Abs(up) < math.Abs(down) {
		inner = up
	}
	if zero != inner {
		t.Fatalf("%s of %x: Zero is %x, want %x", what, at, zero, inner)
	}
}

// alike checks that two calls tell the same by each mode.
func alike(t *testing.T, what string, a, b by, at ...float64) {
	t.Helper()
	for _, m := range modes {
		if x, y := a(m), b(m); !same(x, y) {
			t.Fatalf("%s of %x by %d: %x and %x", what, at, m, x, y)
		}
	}
}

// P3.4: what follows, at edges and at floats of all sizes.
func TestFollows(t *testing.T) {
	list := pool()
	r := rand.New(rand.NewSource(7))
	for len(list) < 250 {
		list = append(list, anyFloat(r))
	}
	for _, a := range list {
		sides(t, "Sqrt", root(a), a)
		for _, b := range list {
			sides(t, "Add", add(a, b), a, b)
			sides(t, "Sub", sub(a, b), a, b)
			sides(t, "Mul", mul(a, b), a, b)
			sides(t, "Div", div(a, b), a, b)
			alike(t, "Add, in either order,", add(a, b), add(b, a), a, b)
			alike(t, "Mul, in either order,", mul(a, b), mul(b, a), a, b)
			alike(t, "Sub and Add", sub(a, b), add(a, -b), a, b)
			alike(t, "Mul, turned,", mul(a, b), turned(mul(-a, b)), a, b)
			alike(t, "Div, turned,", div(a, b), turned(div(-a, b)), a, b)
			if a+b != 0 {
				alike(t, "Add, turned,", add(a, b), turned(add(-a, -b)), a, b)
			}
			c := list[r.Intn(len(list))]
			sides(t, "Fused", fused(a, b, c), a, b, c)
			rises(t, a, c, b)
		}
	}
}

// rises checks that Add and Mul (by what is not below 0) keep the order of what they are told of.
func rises(t *testing.T, a, more, b float64) {
	t.Helper()
	if !(a <= more) {
		return
	}
	for _, m := range modes {
		if x, y := round.Add(a, b, m), round.Add(more, b, m); x > y {
			t.Fatalf("Add by %d: %x at %x, %x at %x, with %x", m, x, a, y, more, b)
		}
		if x, y := round.Mul(a, b, m), round.Mul(more, b, m); b >= 0 && x > y {
			t.Fatalf("Mul by %d: %x at %x, %x at %x, with %x", m, x, a, y, more, b)
		}
	}
}

// P3.4: both sides are the same just where the exact answer is a float.
func TestExactAnswers(t *testing.T) {
	run(t, []one{
		{"1 + 2", add(1, 2), all(3)},
		{"M - the last bit", sub(most, 0x1p971), all(math.Nextafter(most, 0))},
		{"e + e", add(least, least), all(2 * least)},
		{"2^-537 squared", mul(0x1p-537, 0x1p-537), all(least)},
		{"2^-1022 over 4", div(normal, -4), all(-normal / 4)},
		{"3e over 3", div(3*least, 3), all(least)},
		{"M over M", div(most, -most), all(-1)},
		{"6 over 4", div(6, 4), all(1.5)},
		{"root of 2^-1022", root(normal), all(0x1p-511)},
		{"root of 9e", root(math.Ldexp(9, -1074)), all(math.Ldexp(3, -537))},
		{"root of 2^1022", root(0x1p1022), all(0x1p511)},
		{"3 5 + 1", fused(3, 5, 1), all(16)},
		{"e 2 + e", fused(least, 2, least), all(3 * least)},
		{"M 2 - M", fused(most, 2, -most), all(most)},
	})
}
