package ratio_test

import (
	"math"
	"math/big"
	"math/rand"
	"slices"
	"testing"

	"girder/api"
	"girder/dyad"
	"girder/ratio"
)

const (
	least = 0x1p-1074
	most  = math.MaxFloat64
	ones  = math.MaxUint64
)

var (
	minus0 = math.Copysign(0, -1)
	inf    = math.Inf(1)
	modes  = []api.Mode{api.Nearest, api.Down, api.Up, api.Zero, -1, 4, 127, -128}
)

// frac is n over d as it is written, right or not.
func frac(n int64, d uint64) api.Ratio {
	r := api.Ratio{Neg: n < 0, Den: []uint64{d}}
	if n < 0 {
		n = -n
	}
	if n != 0 {
		r.Num = []uint64{uint64(n)}
	}
	return r
}

// full has limbs of ones alone: the widest whole number of so many limbs.
func full(limbs int) []uint64 { return slices.Repeat([]uint64{ones}, limbs) }

// power is 2^n.
func power(n int) []uint64 { return append(make([]uint64, n/64), 1<<(n%64)) }

func minus(r api.Ratio) api.Ratio {
	r.Neg = !r.Neg
	return r
}

func same(a, b api.Ratio) bool {
	return a.Neg == b.Neg && slices.Equal(a.Num, b.Num) && slices.Equal(a.Den, b.Den)
}

func sameBits(a, b float64) bool { return math.Float64bits(a) == math.Float64bits(b) }

// isNone tells whether r is what stands beside an error.
func isNone(r api.Ratio) bool { return !r.Neg && len(r.Num) == 0 && len(r.Den) == 0 }

// wrong is ratios that are not right.
func wrong() []api.Ratio {
	return []api.Ratio{
		{},
		{Neg: true},
		{Den: []uint64{0}},
		{Num: []uint64{1}},
		{Num: []uint64{1}, Den: []uint64{0}},
		{Num: []uint64{1}, Den: []uint64{0, 0}},
		frac(0, 2),
		minus(frac(0, 1)),
		{Num: []uint64{0}, Den: []uint64{1}},
		{Den: []uint64{1, 0}},
		{Num: []uint64{1, 0}, Den: []uint64{1}},
		{Num: []uint64{1}, Den: []uint64{1, 0}},
		{Num: []uint64{0, 0}, Den: []uint64{1}},
		frac(2, 4),
		frac(-3, 3),
		frac(15, 21),
		{Num: []uint64{0, 1}, Den: []uint64{2}},
		{Num: []uint64{3}, Den: full(256)}, // 2^16384 - 1 is divided by 3
		{Num: full(3), Den: full(2)},       // both by 2^64 - 1
		{Num: full(257), Den: []uint64{1}},
		{Num: []uint64{1}, Den: full(257)},
		{Num: append(full(256), 0), Den: []uint64{1}},
		{Num: []uint64{1}, Den: append(full(256), 0)},
		{Num: full(256), Den: full(256)},
	}
}

// edges is right ratios of the least and the greatest lengths.
func edges() []api.Ratio {
	return []api.Ratio{
		frac(0, 1), {Num: []uint64{}, Den: []uint64{1}}, frac(1, 1), frac(-1, 1), frac(1, ones), frac(-3, 2), frac(7, 3),
		{Num: full(256), Den: []uint64{1}},
		{Neg: true, Num: []uint64{1}, Den: full(256)},
		{Num: full(256), Den: power(16383)},
		{Neg: true, Num: power(16383), Den: full(256)},
		{Num: []uint64{2}, Den: full(256)},
		{Num: []uint64{0, 1}, Den: full(2)},
	}
}

// whole is the value of limbs.
func whole(x []uint64) *big.Int {
	v := new(big.Int)
	for _, limb := range slices.Backward(x) {
		v.Lsh(v, 64).Or(v, new(big.Int).SetUint64(limb))
	}
	return v
}

// row is the limbs of v.
func row(v *big.Int) []uint64 {
	var out []uint64
	for rest := new(big.Int).Abs(v); rest.Sign() != 0; rest.Rsh(rest, 64) {
		out = append(out, new(big.Int).And(rest, new(big.Int).SetUint64(ones)).Uint64())
	}
	return out
}

// value is the value of r, whose Den is not 0.
func value(r api.Ratio) *big.Rat {
	v := new(big.Rat).SetFrac(whole(r.Num), whole(r.Den))
	if r.Neg {
		v.Neg(v)
	}
	return v
}

// rightOf is the right ratio of v, ErrLong if there is none; by math/big alone.
func rightOf(v *big.Rat) (api.Ratio, api.Errno) {
	if v.Num().BitLen() > 16384 || v.Denom().BitLen() > 16384 {
		return api.Ratio{}, api.ErrLong
	}
	return api.Ratio{Neg: v.Sign() < 0, Num: row(v.Num()), Den: row(v.Denom())}, api.OK
}

func anyLimbs(r *rand.Rand, most int) []uint64 {
	out := make([]uint64, 1+r.Intn(most))
	for i := range out {
		out[i] = []uint64{0, ones, r.Uint64(), 1 << r.Intn(64), uint64(r.Intn(60))}[r.Intn(5)]
	}
	out[len(out)-1] |= 1
	return out
}

// some is right ratios of all lengths, the same ones at each run.
func some(r *rand.Rand, n int) []api.Ratio {
	out := edges()
	for len(out) < n {
		most := 1 << r.Intn(9)
		x, e := rightOf(new(big.Rat).SetFrac(whole(anyLimbs(r, most)), whole(anyLimbs(r, most))))
		if e == api.OK {
			x.Neg = r.Intn(2) == 1
			out = append(out, x)
		}
	}
	return out
}

// P7.1: what is a right ratio, and what is none.
func TestRight(t *testing.T) {
	for i, r := range append(edges(), some(rand.New(rand.NewSource(1)), 60)...) {
		if !ratio.Right(r) {
			t.Error(i, r, "is right")
		}
	}
	for i, r := range wrong() {
		if ratio.Right(r) {
			t.Error(i, r, "is not right")
		}
	}
	// Example 2.
	for _, r := range []api.Ratio{frac(2, 4), minus(frac(0, 1)), {Num: []uint64{1}, Den: []uint64{1, 0}}} {
		if ratio.Right(r) {
			t.Error(r)
		}
	}
}

// P7.1: each divisor in common counts, the least and the greatest.
func TestRightDivisors(t *testing.T) {
	for n := range int64(60) {
		for d := range uint64(60) {
			want := new(big.Int).GCD(nil, nil, big.NewInt(n), new(big.Int).SetUint64(d)).Int64() == 1 && d > 0
			if got := ratio.Right(frac(n, d)); got != want {
				t.Error(n, d, got)
			}
		}
	}
	r := rand.New(rand.NewSource(2))
	for i := range 200 {
		a, b, c := whole(anyLimbs(r, 80)), whole(anyLimbs(r, 80)), whole(anyLimbs(r, 80))
		x := api.Ratio{Num: row(a.Mul(a, c)), Den: row(b.Mul(b, c))}
		want := new(big.Int).GCD(nil, nil, a, b).BitLen() == 1
		if got := ratio.Right(x); got != want {
			t.Error(i, got)
		}
	}
}

// P7.2: the edges of making right.
func TestNorm(t *testing.T) {
	for i, x := range []struct {
		r    api.Ratio
		want api.Ratio
		err  api.Errno
	}{
		// Example 2.
		{api.Ratio{Neg: true, Num: []uint64{6, 0}, Den: []uint64{4}}, frac(-3, 2), api.OK},
		{api.Ratio{Neg: true, Num: []uint64{0}, Den: []uint64{5}}, frac(0, 1), api.OK},
		{api.Ratio{Num: []uint64{1}}, api.Ratio{}, api.ErrZero},
		{api.Ratio{Den: []uint64{0}}, api.Ratio{}, api.ErrZero},
		// No Den, whatever the Num.
		{api.Ratio{}, api.Ratio{}, api.ErrZero},
		{api.Ratio{Neg: true, Num: full(300), Den: make([]uint64, 300)}, api.Ratio{}, api.ErrZero},
		{api.Ratio{Num: make([]uint64, 3), Den: make([]uint64, 2)}, api.Ratio{}, api.ErrZero},
		// 0 in every form.
		{api.Ratio{Den: []uint64{1}}, frac(0, 1), api.OK},
		{api.Ratio{Neg: true, Den: []uint64{7, 0, 0}}, frac(0, 1), api.OK},
		{api.Ratio{Num: make([]uint64, 400), Den: []uint64{0, 3}}, frac(0, 1), api.OK},
		{api.Ratio{Neg: true, Num: []uint64{0}, Den: full(300)}, frac(0, 1), api.OK},
		// Noughts on top.
		{api.Ratio{Num: append([]uint64{5}, make([]uint64, 400)...), Den: append([]uint64{3}, make([]uint64, 400)...)}, frac(5, 3), api.OK},
		{api.Ratio{Num: append(full(256), 0), Den: []uint64{1, 0}}, api.Ratio{Num: full(256), Den: []uint64{1}}, api.OK},
		// Common divisors.
		{api.Ratio{Num: []uint64{0, 0, 12}, Den: []uint64{0, 0, 18}}, frac(2, 3), api.OK},
		{api.Ratio{Neg: true, Num: full(300), Den: full(300)}, frac(-1, 1), api.OK},
		{api.Ratio{Num: full(256), Den: []uint64{ones}}, api.Ratio{Num: slices.Repeat([]uint64{1}, 256), Den: []uint64{1}}, api.OK},
		{api.Ratio{Num: power(16384), Den: []uint64{2}}, api.Ratio{Num: power(16383), Den: []uint64{1}}, api.OK},
		{api.Ratio{Neg: true, Num: []uint64{2}, Den: power(16384)}, api.Ratio{Neg: true, Num: []uint64{1}, Den: power(16383)}, api.OK},
		{api.Ratio{Num: power(70000), Den: power(53617)}, api.Ratio{Num: power(16383), Den: []uint64{1}}, api.OK},
		// Too long.
		{api.Ratio{Num: power(16384), Den: []uint64{1}}, api.Ratio{}, api.ErrLong},
		{api.Ratio{Num: power(16384), Den: []uint64{3}}, api.Ratio{}, api.ErrLong},
		{api.Ratio{Neg: true, Num: []uint64{1}, Den: power(16384)}, api.Ratio{}, api.ErrLong},
		{api.Ratio{Num: power(70000), Den: power(53616)}, api.Ratio{}, api.ErrLong},
		{api.Ratio{Num: full(257), Den: full(256)}, api.Ratio{}, api.ErrLong},
		{api.Ratio{Num: full(256), Den: full(257)}, api.Ratio{}, api.ErrLong},
	} {
		got, e := ratio.Norm(x.r)
		if e != x.err || !same(got, x.want) {
			t.Error(i, got, e, x.want, x.err)
		}
	}
}

// P7.2: any ratio against whole numbers of any length.
func TestNormMany(t *testing.T) {
	r := rand.New(rand.NewSource(3))
	long := 0
	for i := range 600 {
		x := api.Ratio{Neg: i%2 == 1, Num: anyLimbs(r, 1<<r.Intn(9)), Den: anyLimbs(r, 1<<r.Intn(9))}
		if i%3 > 0 { // a divisor in common, as long as the others or longer
			c := whole(anyLimbs(r, 1<<r.Intn(9)))
			x.Num, x.Den = row(new(big.Int).Mul(whole(x.Num), c)), row(new(big.Int).Mul(whole(x.Den), c))
		}
		if i%5 == 0 { // at the edge of what is too long
			x.Num = append(x.Num, full(257-min(len(x.Num), 256))...)
		}
		x.Num, x.Den = append(x.Num, make([]uint64, r.Intn(3))...), append(x.Den, make([]uint64, r.Intn(3))...)
		want, err := rightOf(value(x))
		got, e := ratio.Norm(x)
		if e != err || !same(got, want) {
			t.Fatal(i, x, got, e, want, err)
		}
		if e == api.OK && !ratio.Right(got) {
			t.Fatal(i, got, "is not right")
		}
		if e == api.ErrLong {
			long++
		}
	}
	if long < 50 {
		t.Error("only", long, "were too long")
	}
}

// P7.2: of right ratios Norm tells the same, of others another.
func TestNormRight(t *testing.T) {
	for i, r := range some(rand.New(rand.NewSource(4)), 60) {
		if got, e := ratio.Norm(r); e != api.OK || !same(got, r) {
			t.Error(i, r, got, e)
		}
	}
	for i, r := range wrong() {
		if got, e := ratio.Norm(r); e == api.OK && (same(got, r) || !ratio.Right(got)) {
			t.Error(i, r, got, e)
		}
	}
}

// P7.2, R1: lists that are very long are made right, or refused, and soon.
func TestNormLong(t *testing.T) {
	r := rand.New(rand.NewSource(5))
	a, b := make([]uint64, 20000), make([]uint64, 20000)
	for i := range a {
		a[i], b[i] = r.Uint64()|1, r.Uint64()|1
	}
	for i, x := range []api.Ratio{{Num: a, Den: b}, {Num: a, Den: []uint64{7}}, {Num: []uint64{7}, Den: a}, {Num: a, Den: b[:19900]}} {
		if got, e := ratio.Norm(x); e != api.ErrLong || !isNone(got) {
			t.Error(i, got, e)
		}
	}
	times := func(x []uint64, n int64) []uint64 { return row(new(big.Int).Mul(whole(x), big.NewInt(n))) }
	if got, e := ratio.Norm(api.Ratio{Neg: true, Num: times(a, 21), Den: times(a, 35)}); e != api.OK || !same(got, frac(-3, 5)) {
		t.Error(got, e)
	}
}

// P7.3: whole numbers, floats and dyads become right ratios.
func TestBegin(t *testing.T) {
	for _, n := range []int64{0, 1, -1, -3, 2, 1 << 40, math.MaxInt64, math.MinInt64, math.MinInt64 + 1} {
		want, _ := rightOf(new(big.Rat).SetInt64(n))
		if got := ratio.Int(n); !same(got, want) || !ratio.Right(got) {
			t.Error(n, got)
		}
	}
	if got := ratio.Int(-3); !same(got, frac(-3, 1)) { // example 1
		t.Error(got)
	}
	for _, x := range []float64{math.NaN(), inf, -inf} {
		if got, e := ratio.Of(x); e != api.ErrNumber || !isNone(got) {
			t.Error(x, got, e)
		}
	}
	for _, x := range floats(rand.New(rand.NewSource(6)), 400) {
		want, _ := rightOf(new(big.Rat).SetFloat64(x))
		if got, e := ratio.Of(x); e != api.OK || !same(got, want) || !ratio.Right(got) {
			t.Error(x, got, e)
		}
	}
	for _, x := range []struct { // example 1
		x    float64
		want api.Ratio
	}{{0.75, frac(3, 4)}, {minus0, frac(0, 1)}, {0, frac(0, 1)}, {least, api.Ratio{Num: []uint64{1}, Den: power(1074)}}} {
		if got, e := ratio.Of(x.x); e != api.OK || !same(got, x.want) {
			t.Error(x, got, e)
		}
	}
}

// P7.3: of dyads.
func TestOfDyad(t *testing.T) {
	for i, x := range []struct {
		d    api.Dyad
		want api.Ratio
		err  api.Errno
	}{
		// Example 1.
		{api.Dyad{Mag: []uint64{1}, Exp: -64}, api.Ratio{Num: []uint64{1}, Den: []uint64{0, 1}}, api.OK},
		{api.Dyad{Mag: []uint64{1}, Exp: 16384}, api.Ratio{}, api.ErrLong},
		{api.Dyad{Mag: []uint64{1}, Exp: 16383}, api.Ratio{Num: power(16383), Den: []uint64{1}}, api.OK},
		{api.Dyad{}, frac(0, 1), api.OK},
		{api.Dyad{Neg: true, Mag: []uint64{3}, Exp: -2}, frac(-3, 4), api.OK},
		{api.Dyad{Neg: true, Mag: []uint64{3}, Exp: 0}, frac(-3, 1), api.OK},
		{api.Dyad{Mag: []uint64{1}, Exp: -16383}, api.Ratio{Num: []uint64{1}, Den: power(16383)}, api.OK},
		{api.Dyad{Mag: []uint64{1}, Exp: -16384}, api.Ratio{}, api.ErrLong},
		{api.Dyad{Mag: []uint64{1}, Exp: 65536}, api.Ratio{}, api.ErrLong},
		{api.Dyad{Neg: true, Mag: []uint64{1}, Exp: -65536}, api.Ratio{}, api.ErrLong},
		{api.Dyad{Mag: full(256)}, api.Ratio{Num: full(256), Den: []uint64{1}}, api.OK},
		{api.Dyad{Mag: full(256), Exp: 1}, api.Ratio{}, api.ErrLong},
		{api.Dyad{Neg: true, Mag: full(256), Exp: -16383}, api.Ratio{Neg: true, Num: full(256), Den: power(16383)}, api.OK},
		// What is no right dyad, too long or not.
		{api.Dyad{Neg: true}, api.Ratio{}, api.ErrArg},
		{api.Dyad{Exp: 1}, api.Ratio{}, api.ErrArg},
		{api.Dyad{Mag: []uint64{0}}, api.Ratio{}, api.ErrArg},
		{api.Dyad{Mag: []uint64{2}}, api.Ratio{}, api.ErrArg},
		{api.Dyad{Mag: []uint64{1, 0}}, api.Ratio{}, api.ErrArg},
		{api.Dyad{Mag: []uint64{1}, Exp: 65537}, api.Ratio{}, api.ErrArg},
		{api.Dyad{Mag: []uint64{1}, Exp: math.MinInt}, api.Ratio{}, api.ErrArg},
		{api.Dyad{Mag: full(257)}, api.Ratio{}, api.ErrArg},
	} {
		if got, e := ratio.OfDyad(x.d); e != x.err || !same(got, x.want) {
			t.Error(i, x, got, e)
		}
	}
	r := rand.New(rand.NewSource(7))
	for i := range 300 {
		d, e := dyad.Norm(api.Dyad{Neg: i%2 == 1, Mag: anyLimbs(r, 1<<r.Intn(9)), Exp: r.Intn(1<<r.Intn(16)) - r.Intn(1<<r.Intn(16))})
		if e != api.OK {
			continue
		}
		v := new(big.Rat).SetInt(whole(d.Mag))
		v.Mul(v, new(big.Rat).SetFrac(new(big.Int).Lsh(big.NewInt(1), uint(max(d.Exp, 0))), new(big.Int).Lsh(big.NewInt(1), uint(max(-d.Exp, 0)))))
		if d.Neg {
			v.Neg(v)
		}
		want, err := rightOf(v)
		if got, e := ratio.OfDyad(d); e != err || !same(got, want) {
			t.Fatal(i, d, got, e)
		}
	}
}

// P7.4: the chapter's example 3, noughts, and what is just too long.
func TestReckon(t *testing.T) {
	third, half := frac(1, 3), frac(1, 2)
	great := api.Ratio{Num: full(256), Den: []uint64{1}}
	tiny := api.Ratio{Num: []uint64{1}, Den: full(256)}
	for i, x := range []struct {
		do   func(a, b api.Ratio) (api.Ratio, api.Errno)
		a, b api.Ratio
		want api.Ratio
		err  api.Errno
	}{
		{ratio.Add, third, frac(1, 6), half, api.OK},
		{ratio.Sub, third, third, frac(0, 1), api.OK},
		{ratio.Mul, frac(-2, 3), frac(3, 2), frac(-1, 1), api.OK},
		{ratio.Div, half, frac(-3, 1), frac(-1, 6), api.OK},
		{ratio.Div, frac(1, 1), frac(0, 1), api.Ratio{}, api.ErrZero},
		{ratio.Div, frac(0, 1), frac(0, 1), api.Ratio{}, api.ErrZero},
		{ratio.Div, great, frac(0, 1), api.Ratio{}, api.ErrZero},
		{ratio.Div, frac(0, 1), frac(-3, 1), frac(0, 1), api.OK},
		{ratio.Mul, frac(0, 1), frac(-3, 1), frac(0, 1), api.OK},
		{ratio.Mul, frac(-3, 7), frac(0, 1), frac(0, 1), api.OK},
		{ratio.Add, frac(0, 1), frac(0, 1), frac(0, 1), api.OK},
		{ratio.Sub, frac(0, 1), frac(0, 1), frac(0, 1), api.OK},
		{ratio.Add, frac(0, 1), frac(-1, 3), frac(-1, 3), api.OK},
		{ratio.Sub, frac(0, 1), third, frac(-1, 3), api.OK},
		{ratio.Sub, frac(-1, 3), frac(0, 1), frac(-1, 3), api.OK},
		{ratio.Add, frac(-1, 3), third, frac(0, 1), api.OK},
		{ratio.Add, great, frac(1, 1), api.Ratio{}, api.ErrLong},
		{ratio.Sub, minus(great), frac(1, 1), api.Ratio{}, api.ErrLong},
		{ratio.Add, great, frac(-1, 1), api.Ratio{Num: append([]uint64{ones - 1}, full(255)...), Den: []uint64{1}}, api.OK},
		{ratio.Sub, great, great, frac(0, 1), api.OK},
		{ratio.Mul, great, tiny, frac(1, 1), api.OK},
		{ratio.Div, tiny, minus(tiny), frac(-1, 1), api.OK},
		{ratio.Div, great, tiny, api.Ratio{}, api.ErrLong},
		{ratio.Mul, tiny, half, api.Ratio{}, api.ErrLong},
		{ratio.Mul, api.Ratio{Num: power(8191), Den: []uint64{1}}, api.Ratio{Num: power(8192), Den: []uint64{1}}, api.Ratio{Num: power(16383), Den: []uint64{1}}, api.OK},
		{ratio.Mul, api.Ratio{Num: power(8192), Den: []uint64{1}}, api.Ratio{Num: power(8192), Den: []uint64{1}}, api.Ratio{}, api.ErrLong},
		{ratio.Add, tiny, tiny, api.Ratio{Num: []uint64{2}, Den: full(256)}, api.OK},
		{ratio.Add, tiny, half, api.Ratio{}, api.ErrLong},
		// A sum of more limbs than fit, which a divisor in common makes short again.
		{ratio.Add, api.Ratio{Num: full(256), Den: []uint64{2}}, api.Ratio{Num: full(256), Den: []uint64{2}}, great, api.OK},
	} {
		if got, e := x.do(x.a, x.b); e != x.err || !same(got, x.want) {
			t.Error(i, x.a, x.b, got, e)
		}
	}
}

type operation struct {
	do    func(a, b api.Ratio) (api.Ratio, api.Errno)
	exact func(z, a, b *big.Rat) *big.Rat
}

func operations() []operation {
	return []operation{{ratio.Add, (*big.Rat).Add}, {ratio.Sub, (*big.Rat).Sub}, {ratio.Mul, (*big.Rat).Mul}, {ratio.Div, (*big.Rat).Quo}}
}

// P7.4: all four against fractions of any length.
func TestReckonMany(t *testing.T) {
	r := rand.New(rand.NewSource(8))
	list := some(r, 42)
	counts := map[api.Errno]int{}
	for i, a := range list {
		for k, b := range list {
			if r.Intn(3) == 0 && len(a.Den) < 20 { // so that divisors in common come about
				b.Den = a.Den
				b, _ = ratio.Norm(b)
			}
			for n, op := range operations() {
				got, e := op.do(a, b)
				counts[e]++
				if n == 3 && len(b.Num) == 0 {
					if e != api.ErrZero || !isNone(got) {
						t.Fatal(i, k, got, e)
					}
					continue
				}
				want, err := rightOf(op.exact(new(big.Rat), value(a), value(b)))
				if e != err || !same(got, want) {
					t.Fatal(i, k, n, a, b, got, e, err)
				}
			}
		}
	}
	if counts[api.OK] < 1000 || counts[api.ErrLong] < 500 || counts[api.ErrZero] < 10 {
		t.Error(counts)
	}
}

// P7.5: signs and order.
func TestCompare(t *testing.T) {
	if n, e := ratio.Cmp(frac(1, 3), frac(3333, 10000)); n != 1 || e != api.OK { // example 3
		t.Error(n, e)
	}
	list := some(rand.New(rand.NewSource(9)), 60)
	for _, x := range list[:len(list):len(list)] {
		if len(x.Num) > 0 {
			list = append(list, minus(x))
		}
	}
	for i, a := range list {
		if n, e := ratio.Sign(a); n != value(a).Sign() || e != api.OK {
			t.Error(a, n, e)
		}
		for k, b := range list {
			if n, e := ratio.Cmp(a, b); n != value(a).Cmp(value(b)) || e != api.OK {
				t.Error(i, k, n, e)
			}
		}
	}
}

// P7.4, P7.5, P7.6: what is not right is refused wherever it stands, ahead of all else, with zeros.
func TestWrong(t *testing.T) {
	good := []api.Ratio{frac(0, 1), frac(-2, 3), {Num: full(256), Den: []uint64{1}}}
	for i, bad := range wrong() {
		if n, e := ratio.Sign(bad); n != 0 || e != api.ErrArg {
			t.Error(i, n, e)
		}
		for _, m := range modes {
			if x, e := ratio.Round(bad, m); !sameBits(x, 0) || e != api.ErrArg {
				t.Error(i, m, x, e)
			}
		}
		for _, other := range append(good, bad) {
			for _, pair := range [][2]api.Ratio{{bad, other}, {other, bad}} {
				for n, op := range operations() {
					if got, e := op.do(pair[0], pair[1]); !isNone(got) || e != api.ErrArg {
						t.Error(i, n, got, e)
					}
				}
				if n, e := ratio.Cmp(pair[0], pair[1]); n != 0 || e != api.ErrArg {
					t.Error(i, n, e)
				}
			}
		}
	}
}

// P7.6: the edges of rounding, each way, and by a way that is none of them.
func TestRound(t *testing.T) {
	over := func(num, den []uint64) api.Ratio { return api.Ratio{Num: num, Den: den} }
	lessOne := func(x []uint64) []uint64 { return row(new(big.Int).Sub(whole(x), big.NewInt(1))) }
	above := 1 + 0x1p-52
	infAt := row(new(big.Int).Sub(whole(power(1024)), whole(power(970)))) // from which on Nearest is the infinity
	for i, x := range []struct {
		r                       api.Ratio
		nearest, down, up, zero float64
	}{
		{frac(0, 1), 0, 0, 0, 0},
		{frac(-7, 4), -1.75, -1.75, -1.75, -1.75},
		// Example 4.
		{frac(1, 3), 6004799503160661 * 0x1p-54, 6004799503160661 * 0x1p-54, 6004799503160662 * 0x1p-54, 6004799503160661 * 0x1p-54},
		{minus(over([]uint64{1}, power(1075))), minus0, -least, minus0, minus0},
		{over(power(1024), []uint64{1}), inf, most, inf, most},
		// Below all floats, and halves of the least one.
		{over([]uint64{1}, power(1075)), 0, 0, least, 0},
		{over([]uint64{3}, power(1075)), 2 * least, least, 2 * least, least},
		{over([]uint64{5}, power(1075)), 2 * least, 2 * least, 3 * least, 2 * least},
		{over([]uint64{1}, lessOne(power(1075))), least, 0, least, 0},
		{minus(over([]uint64{1}, lessOne(power(1075)))), -least, -least, minus0, minus0},
		{over([]uint64{1}, full(256)), 0, 0, least, 0},
		{minus(over([]uint64{1}, full(256))), minus0, -least, minus0, minus0},
		{over([]uint64{3}, power(1076)), least, 0, least, 0},
		// Between the subnormal ones and the others.
		{over(lessOne(power(53)), power(1075)), 0x1p-1022, 0x1p-1022 - least, 0x1p-1022, 0x1p-1022 - least},
		// Ties, to the even one, and what is beside a tie.
		{over([]uint64{1<<53 + 1}, power(53)), 1, 1, above, 1},
		{over([]uint64{1<<53 + 3}, power(53)), 1 + 0x1p-51, above, 1 + 0x1p-51, above},
		{minus(over([]uint64{1<<53 + 3}, power(53))), -1 - 0x1p-51, -1 - 0x1p-51, -above, -above},
		{over([]uint64{1<<53 + 1}, lessOne(power(53))), above, above, 1 + 0x1p-51, above},
		{over(append([]uint64{1}, row(new(big.Int).Lsh(big.NewInt(1<<53+1), 6000))[1:]...), power(6053)), above, 1, above, 1},
		{over(lessOne(row(new(big.Int).Lsh(big.NewInt(1<<53+1), 6000))), power(6053)), 1, 1, above, 1},
		// About the greatest float.
		{over(infAt, []uint64{1}), inf, most, inf, most},
		{over(lessOne(infAt), []uint64{1}), most, most, inf, most},
		{minus(over(infAt, []uint64{1})), -inf, -inf, -most, -most},
		{minus(over(lessOne(infAt), []uint64{1})), -most, -inf, -most, -most},
		{over(full(256), []uint64{1}), inf, most, inf, most},
		{minus(over(full(256), []uint64{1})), -inf, -inf, -most, -most},
		{over(full(256), power(16383)), 2, 2 - 0x1p-52, 2, 2 - 0x1p-52},
		{over(power(16383), full(256)), 0.5, 0.5, 0.5 + 0x1p-53, 0.5},
	} {
		for _, m := range modes {
			want := x.nearest
			switch m {
			case api.Down:
				want = x.down
			case api.Up:
				want = x.up
			case api.Zero:
				want = x.zero
			}
			if got, e := ratio.Round(x.r, m); e != api.OK || !sameBits(got, want) {
				t.Error(i, m, got, e, want)
			}
		}
	}
}

// floats is n finite floats of all sizes, those at the edges first.
func floats(r *rand.Rand, n int) []float64 {
	var out []float64
	for _, x := range []float64{0, least, 3 * least, 0x1p-1022 - least, 0x1p-1022, 0.1, 0.75, 1, 1 + 0x1p-52, 3, 0x1p53, 0x1p63, 0x1p64, 0x1p1023, most} {
		out = append(out, x, -x)
	}
	out = append(out, minus0)
	for len(out) < n {
		if x := math.Float64frombits(r.Uint64()); x-x == 0 {
			out = append(out, x)
		}
	}
	return out
}

// rounded is v rounded by m, by math/big and one step of floats.
func rounded(v *big.Rat, m api.Mode) float64 {
	near, _ := v.Float64()
	if v.Sign() == 0 || m != api.Down && m != api.Up && m != api.Zero {
		return near
	}
	up := m == api.Up || m == api.Zero && v.Sign() < 0
	side := 1 // on which near stands of v
	if near-near == 0 {
		side = new(big.Rat).SetFloat64(near).Cmp(v)
	} else if near < 0 {
		side = -1
	}
	switch {
	case up && side < 0:
		return math.Nextafter(near, inf)
	case !up && side > 0:
		return math.Nextafter(near, -inf)
	}
	return near
}

// P7.6: by each way, ratios of all lengths and those about floats and the halves between them.
func TestRoundMany(t *testing.T) {
	r := rand.New(rand.NewSource(10))
	list := some(r, 150)
	for _, x := range floats(r, 150) {
		v := new(big.Rat).SetFloat64(x)
		next := math.Nextafter(x, inf)
		if next-next != 0 {
			continue
		}
		half := new(big.Rat).SetFloat64(next)
		half.Add(half, v).Quo(half, big.NewRat(2, 1))
		off := new(big.Rat).SetFrac(big.NewInt(1), new(big.Int).Lsh(big.NewInt(1), uint(1076+r.Intn(4000))))
		for _, y := range []*big.Rat{half, new(big.Rat).Add(half, off), new(big.Rat).Sub(half, off), new(big.Rat).Add(v, off), new(big.Rat).Sub(v, off)} {
			a, e := rightOf(y)
			if e != api.OK {
				t.Fatal(e)
			}
			list = append(list, a)
		}
	}
	for i, a := range list {
		for _, m := range modes {
			if got, e := ratio.Round(a, m); e != api.OK || !sameBits(got, rounded(value(a), m)) {
				t.Error(i, a, m, got, e, rounded(value(a), m))
			}
		}
	}
}

// P7.7: Round of Of(x) is x; of -0 it is +0.
func TestRoundOf(t *testing.T) {
	for _, x := range floats(rand.New(rand.NewSource(11)), 500) {
		a, _ := ratio.Of(x)
		for _, m := range modes {
			if got, e := ratio.Round(a, m); e != api.OK || !sameBits(got, x+0) {
				t.Error(x, m, got, e)
			}
		}
	}
}

// P7.7: Down and Up stand about r, next to each other; Nearest is the nearer one.
func TestRoundSides(t *testing.T) {
	for i, r := range some(rand.New(rand.NewSource(12)), 200) {
		down, _ := ratio.Round(r, api.Down)
		up, _ := ratio.Round(r, api.Up)
		near, _ := ratio.Round(r, api.Nearest)
		if down != up && math.Nextafter(down, inf) != up || near != down && near != up {
			t.Error(i, down, up, near)
		}
		low, lowErr := ratio.Of(down)
		high, highErr := ratio.Of(up)
		if lowErr != api.OK || highErr != api.OK {
			continue // an infinity, of which no distance is told
		}
		below, e := ratio.Cmp(low, r)
		above, f := ratio.Cmp(high, r)
		if below > 0 || above < 0 || e != api.OK || f != api.OK || down == up && below != 0 {
			t.Error(i, down, up, below, above)
		}
		v := value(r)
		toDown, toUp := new(big.Rat).Sub(v, value(low)), new(big.Rat).Sub(value(high), v)
		if c := toDown.Cmp(toUp); c < 0 && near != down || c > 0 && near != up {
			t.Error(i, down, up, near)
		}
	}
}

// P7.7: what holds of numbers holds of right ratios.
func TestLaws(t *testing.T) {
	r := rand.New(rand.NewSource(13))
	ok := func(x api.Ratio, e api.Errno) api.Ratio {
		t.Helper()
		if e != api.OK || !ratio.Right(x) {
			t.Fatal(x, e)
		}
		return x
	}
	short := func() api.Ratio {
		return ok(ratio.Norm(api.Ratio{Neg: r.Intn(2) == 0, Num: anyLimbs(r, 20)[r.Intn(2):], Den: anyLimbs(r, 20)}))
	}
	for i := range 200 {
		a, b, c := short(), short(), short()
		pairs := [][2]api.Ratio{
			{ok(ratio.Add(a, b)), ok(ratio.Add(b, a))},
			{ok(ratio.Mul(a, b)), ok(ratio.Mul(b, a))},
			{ok(ratio.Add(ok(ratio.Add(a, b)), c)), ok(ratio.Add(a, ok(ratio.Add(b, c))))},
			{ok(ratio.Mul(ok(ratio.Mul(a, b)), c)), ok(ratio.Mul(a, ok(ratio.Mul(b, c))))},
			{ok(ratio.Mul(a, ok(ratio.Add(b, c)))), ok(ratio.Add(ok(ratio.Mul(a, b)), ok(ratio.Mul(a, c))))},
			{ok(ratio.Sub(ok(ratio.Add(a, b)), b)), a},
		}
		if len(b.Num) > 0 {
			pairs = append(pairs, [2]api.Ratio{ok(ratio.Mul(ok(ratio.Div(a, b)), b)), a})
		}
		for k, p := range pairs {
			if !same(p[0], p[1]) {
				t.Error(i, k, p)
			}
		}
		order, _ := ratio.Cmp(a, b)
		if s, e := ratio.Sign(ok(ratio.Sub(a, b))); s != order || e != api.OK {
			t.Error(i, s, order)
		}
	}
}

// R3: what is handed in stays as it is, with its spare room; what is handed out is new, Num and Den apart.
func TestMemory(t *testing.T) {
	roomy := func(x []uint64) []uint64 { return append(slices.Clone(x), 77, 77, 77)[:len(x)] }
	all := func(lists ...[]uint64) []uint64 {
		var out []uint64
		for _, x := range lists {
			out = append(out, x[:cap(x)]...)
		}
		return out
	}
	great := api.Ratio{Num: full(256), Den: []uint64{1}}
	for i, pair := range [][2]api.Ratio{{frac(1, 3), frac(-5, 7)}, {frac(0, 1), frac(5, 2)}, {frac(5, 2), frac(0, 1)}, {frac(0, 1), frac(0, 1)}, {frac(1, 1), great}, {great, great}, {frac(6, 1), frac(1, 6)}} {
		a := api.Ratio{Neg: pair[0].Neg, Num: roomy(pair[0].Num), Den: roomy(pair[0].Den)}
		b := api.Ratio{Neg: pair[1].Neg, Num: roomy(pair[1].Num), Den: roomy(pair[1].Den)}
		loose := api.Ratio{Num: roomy([]uint64{6, 0}), Den: roomy([]uint64{4, 0})}
		d := api.Dyad{Mag: roomy([]uint64{5}), Exp: i - 3}
		before := all(a.Num, a.Den, b.Num, b.Den, loose.Num, loose.Den, d.Mag)
		var got, want []api.Ratio
		keep := func(r api.Ratio, e api.Errno) {
			got = append(got, r)
			want = append(want, api.Ratio{Neg: r.Neg, Num: slices.Clone(r.Num), Den: slices.Clone(r.Den)})
		}
		for range 2 {
			keep(ratio.Norm(a))
			keep(ratio.Norm(loose))
			keep(ratio.OfDyad(d))
			keep(ratio.Of(float64(i)))
			keep(ratio.Int(int64(i)), api.OK)
			for _, op := range operations() {
				keep(op.do(a, b))
			}
			ratio.Right(loose)
			ratio.Sign(a)
			ratio.Cmp(a, b)
			ratio.Round(a, api.Up)
		}
		for k, r := range got {
			for _, list := range [][]uint64{r.Num, r.Den} { // written over, with the room behind it
				for n := range list[:cap(list)] {
					list[:cap(list)][n] = 99
				}
				if !slices.Equal(before, all(a.Num, a.Den, b.Num, b.Den, loose.Num, loose.Den, d.Mag)) {
					t.Fatal(i, k, "what was handed in has changed")
				}
				if len(r.Num) > 0 && &list[0] == &r.Num[0] && !slices.Equal(r.Den, want[k].Den) {
					t.Error(i, k, "Num and Den share memory")
				}
			}
			for n := k + 1; n < len(got); n++ {
				if !same(got[n], want[n]) {
					t.Fatal(i, k, n, "answers share memory")
				}
			}
		}
	}
}
