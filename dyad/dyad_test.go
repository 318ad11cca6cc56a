package dyad_test

import (
	"math"
	"math/big"
	"math/rand"
	"slices"
	"testing"

	"girder/api"
	"girder/dyad"
)

const (
	least = 0x1p-1074
	most  = math.MaxFloat64
	ones  = math.MaxUint64
)

var (
	minus0 = math.Copysign(0, -1)
	inf    = math.Inf(1)
	modes  = []api.Mode{api.Nearest, api.Down, api.Up, api.Zero}
)

// num is n * 2^exp as it is written, right or not.
func num(n int64, exp int) api.Dyad {
	d := api.Dyad{Neg: n < 0, Exp: exp}
	if n < 0 {
		n = -n
	}
	if n != 0 {
		d.Mag = []uint64{uint64(n)}
	}
	return d
}

// full has limbs of ones alone: the widest number of so many limbs.
func full(limbs, exp int) api.Dyad {
	return api.Dyad{Mag: slices.Repeat([]uint64{ones}, limbs), Exp: exp}
}

func minus(d api.Dyad) api.Dyad {
	d.Neg = !d.Neg
	return d
}

func same(a, b api.Dyad) bool {
	return a.Neg == b.Neg && a.Exp == b.Exp && slices.Equal(a.Mag, b.Mag)
}

func sameBits(a, b float64) bool { return math.Float64bits(a) == math.Float64bits(b) }

// wrong is dyads that are not right.
func wrong() []api.Dyad {
	return []api.Dyad{
		{Neg: true},
		{Exp: 1},
		{Exp: -1},
		{Neg: true, Mag: []uint64{}},
		{Mag: []uint64{0}},
		{Mag: []uint64{2}},
		{Mag: []uint64{1, 0}},
		{Mag: []uint64{0, 1}},
		{Mag: []uint64{2, 1}},
		{Mag: []uint64{1}, Exp: api.MaxExp + 1},
		{Mag: []uint64{1}, Exp: -api.MaxExp - 1},
		{Mag: []uint64{1}, Exp: math.MaxInt},
		{Mag: []uint64{1}, Exp: math.MinInt},
		full(api.MaxLimbs+1, 0),
		{Mag: append(slices.Repeat([]uint64{1}, api.MaxLimbs), 0)},
	}
}

// value is the value of d as a whole number, times 2 to the power base.
func value(d api.Dyad, base int) *big.Int {
	v := new(big.Int)
	for i := len(d.Mag) - 1; i >= 0; i-- {
		v.Lsh(v, 64).Or(v, new(big.Int).SetUint64(d.Mag[i]))
	}
	if d.Neg {
		v.Neg(v)
	}
	return v.Lsh(v, uint(d.Exp+base))
}

// rightOf is the right dyad of v times 2 to the power exp, ErrLong if there is none; by math/big alone.
func rightOf(v *big.Int, exp int) (api.Dyad, api.Errno) {
	if v.Sign() == 0 {
		return api.Dyad{}, api.OK
	}
	size := new(big.Int).Abs(v)
	zeros := size.TrailingZeroBits()
	size.Rsh(size, zeros)
	exp += int(zeros)
	if size.BitLen() > 16384 || exp < -65536 || exp > 65536 {
		return api.Dyad{}, api.ErrLong
	}
	d := api.Dyad{Neg: v.Sign() < 0, Exp: exp}
	for low := new(big.Int); size.Sign() != 0; size.Rsh(size, 64) {
		d.Mag = append(d.Mag, low.And(size, new(big.Int).SetUint64(ones)).Uint64())
	}
	return d, api.OK
}

// some is right dyads of all lengths and powers, the same ones at each run.
func some(r *rand.Rand, n int) []api.Dyad {
	out := []api.Dyad{{}, num(1, 0), num(-1, 0), num(1, 65536), num(-1, -65536), num(3, 65535), full(256, -8192), minus(full(256, 65536)), full(1, 64), full(2, -64)}
	for len(out) < n {
		d := api.Dyad{Neg: r.Intn(2) == 1, Mag: make([]uint64, 1+r.Intn(1<<r.Intn(9))), Exp: r.Intn(1<<(1+r.Intn(16))) - 1<<r.Intn(16)}
		for i := range d.Mag {
			d.Mag[i] = []uint64{0, ones, r.Uint64(), 1 << r.Intn(64)}[r.Intn(4)]
		}
		d.Mag[0] |= 1
		d.Mag[len(d.Mag)-1] |= 1
		if dyad.Right(d) {
			out = append(out, d)
		}
	}
	return out
}

// P2.1
func TestRight(t *testing.T) {
	for i, d := range []api.Dyad{
		{}, {Mag: []uint64{}}, num(1, 0), num(-1, 0), num(1, 65536), num(-1, -65536), full(1, 0), full(256, 0), full(256, 65536), minus(full(256, -65536)),
		{Mag: []uint64{1, 0, 1}}, {Mag: []uint64{ones, 1 << 63}},
	} {
		if !dyad.Right(d) {
			t.Error(i)
		}
	}
	for i, d := range wrong() {
		if dyad.Right(d) {
			t.Error(i)
		}
	}
}

// P2.2
func TestNorm(t *testing.T) {
	zeros := func(n int) []uint64 { return make([]uint64, n) }
	for i, c := range []struct {
		d, want api.Dyad
		e       api.Errno
	}{
		{api.Dyad{Mag: []uint64{0, 4, 0}, Exp: 1}, num(1, 67), api.OK},
		{api.Dyad{Neg: true, Mag: []uint64{0}}, api.Dyad{}, api.OK},
		{api.Dyad{Neg: true, Exp: 7}, api.Dyad{}, api.OK},
		{api.Dyad{Mag: zeros(3), Exp: math.MinInt}, api.Dyad{}, api.OK},
		{api.Dyad{Mag: []uint64{0}, Exp: 1 << 62}, api.Dyad{}, api.OK},
		{num(2, 65535), num(1, 65536), api.OK},
		{num(1, 65537), api.Dyad{}, api.ErrLong},
		{num(2, 65536), api.Dyad{}, api.ErrLong},
		{num(2, -65537), num(1, -65536), api.OK},
		{num(-2, -65538), api.Dyad{}, api.ErrLong},
		{num(1, -65537), api.Dyad{}, api.ErrLong},
		{num(1, math.MaxInt), api.Dyad{}, api.ErrLong},
		{num(1, math.MinInt), api.Dyad{}, api.ErrLong},
		{api.Dyad{Mag: []uint64{0, 1}, Exp: math.MaxInt}, api.Dyad{}, api.ErrLong},
		{api.Dyad{Mag: append(zeros(2048), 6), Exp: -131073}, num(3, 0), api.OK},
		{api.Dyad{Neg: true, Mag: append(zeros(2048), 1), Exp: -196608}, num(-1, -65536), api.OK},
		{api.Dyad{Mag: append([]uint64{1}, zeros(5000)...)}, num(1, 0), api.OK},
		{full(256, 3), full(256, 3), api.OK},
		{full(257, 0), api.Dyad{}, api.ErrLong},
		{api.Dyad{Mag: append([]uint64{2}, append(zeros(255), 1)...)}, api.Dyad{Mag: append([]uint64{1}, append(zeros(254), 1<<63)...), Exp: 1}, api.OK},
		{api.Dyad{Mag: append([]uint64{1}, append(zeros(255), 1)...)}, api.Dyad{}, api.ErrLong},
		{api.Dyad{Mag: append([]uint64{2}, append(zeros(255), 2)...)}, api.Dyad{}, api.ErrLong},
	} {
		in := slices.Clone(c.d.Mag)
		if d, e := dyad.Norm(c.d); e != c.e || !same(d, c.want) {
			t.Error(i, d, e)
		}
		if !slices.Equal(in, c.d.Mag) {
			t.Error(i, "changed")
		}
	}
}

// P2.2: against math/big, with noughts at either end.
func TestNormMany(t *testing.T) {
	r := rand.New(rand.NewSource(2))
	for i, d := range some(r, 1000) {
		wide := api.Dyad{Neg: d.Neg, Mag: slices.Concat(make([]uint64, r.Intn(4)), d.Mag, make([]uint64, r.Intn(4))), Exp: d.Exp}
		for k := range wide.Mag {
			wide.Mag[k] <<= i % 64 // whatever is lost: it is some number all the same
		}
		const base = 1 << 17 // whole numbers, whatever the power
		want, f := rightOf(value(wide, base), -base)
		if got, e := dyad.Norm(wide); e != f || !same(got, want) {
			t.Error(i, e, f)
		}
	}
}

// P2.3
func TestBegin(t *testing.T) {
	for i, c := range []struct {
		x    float64
		want api.Dyad
	}{
		{0.75, num(3, -2)}, {-6, num(-3, 1)}, {0, api.Dyad{}}, {minus0, api.Dyad{}}, {least, num(1, -1074)}, {-3 * least, num(-3, -1074)},
		{0x1p-1022 - least, num(1<<52-1, -1074)}, {0x1p-1022, num(1, -1022)}, {most, num(1<<53-1, 971)}, {-most, num(-(1<<53 - 1), 971)}, {0x1p1023, num(1, 1023)},
	} {
		if d, e := dyad.Of(c.x); e != api.OK || !same(d, c.want) {
			t.Error(i, d, e)
		}
	}
	for _, x := range []float64{math.NaN(), inf, -inf, math.Float64frombits(0xfff0000000000001)} {
		if d, e := dyad.Of(x); e != api.ErrNumber || !same(d, api.Dyad{}) {
			t.Error(x, d, e)
		}
	}
	for n, want := range map[int64]api.Dyad{0: {}, 1: num(1, 0), -1: num(-1, 0), 12: num(3, 2), -80: num(-5, 4), math.MaxInt64: num(math.MaxInt64, 0), math.MinInt64: num(-1, 63), math.MinInt64 + 1: num(-math.MaxInt64, 0)} {
		if d := dyad.Int(n); !same(d, want) || !dyad.Right(d) {
			t.Error(n, d)
		}
	}
}

// P2.4: examples and edges.
func TestReckon(t *testing.T) {
	type call func(a, b api.Dyad) (api.Dyad, api.Errno)
	one := num(1, 0)
	for i, c := range []struct {
		do         call
		a, b, want api.Dyad
		e          api.Errno
	}{
		{dyad.Add, num(3, -2), num(1, -2), one, api.OK},
		{dyad.Sub, num(3, -2), num(3, -2), api.Dyad{}, api.OK},
		{dyad.Add, num(3, -2), num(-3, -2), api.Dyad{}, api.OK},
		{dyad.Sub, num(1, -2), num(3, -2), num(-1, -1), api.OK},
		{dyad.Sub, api.Dyad{}, num(3, 5), num(-3, 5), api.OK},
		{dyad.Sub, api.Dyad{}, api.Dyad{}, api.Dyad{}, api.OK},
		{dyad.Add, api.Dyad{}, num(1, 65536), num(1, 65536), api.OK},
		{dyad.Add, num(-1, -65536), api.Dyad{}, num(-1, -65536), api.OK},
		{dyad.Add, num(1, 65536), num(1, -65536), api.Dyad{}, api.ErrLong},
		{dyad.Add, num(1, 65536), num(1, 65536), api.Dyad{}, api.ErrLong},
		{dyad.Sub, num(3, 65536), num(1, 65536), api.Dyad{}, api.ErrLong},
		{dyad.Sub, num(1, 65536), num(1, 65536), api.Dyad{}, api.OK},
		{dyad.Add, num(1, -65536), num(1, -65536), num(1, -65535), api.OK},
		{dyad.Add, full(2, 0), one, num(1, 128), api.OK},
		{dyad.Sub, num(1, 16384), one, full(256, 0), api.OK},
		{dyad.Add, num(1, 16384), one, api.Dyad{}, api.ErrLong},
		{dyad.Sub, num(1, 16384), full(256, 0), one, api.OK},
		{dyad.Sub, full(256, 0), num(1, 16384), num(-1, 0), api.OK},
		{dyad.Sub, num(1, 16385), full(256, 0), api.Dyad{}, api.ErrLong},
		{dyad.Sub, num(1, 16386), full(256, 0), api.Dyad{}, api.ErrLong},
		{dyad.Add, full(256, 0), full(256, 1), api.Dyad{}, api.ErrLong},
		{dyad.Add, full(256, 0), one, num(1, 16384), api.OK},
		{dyad.Add, full(256, 65536), num(1, 65536), api.Dyad{}, api.ErrLong},
		{dyad.Mul, num(3, 1), num(-5, -4), num(-15, -3), api.OK},
		{dyad.Mul, num(-3, 1), num(-5, 4), num(15, 5), api.OK},
		{dyad.Mul, num(-3, 1), api.Dyad{}, api.Dyad{}, api.OK},
		{dyad.Mul, api.Dyad{}, num(1, 65536), api.Dyad{}, api.OK},
		{dyad.Mul, num(1, 65536), num(1, 1), api.Dyad{}, api.ErrLong},
		{dyad.Mul, num(1, 65536), num(1, -65536), one, api.OK},
		{dyad.Mul, num(1, -65536), num(1, -1), api.Dyad{}, api.ErrLong},
		{dyad.Mul, full(1, 0), full(1, 0), api.Dyad{Mag: []uint64{1, ones - 1}}, api.OK},
		{dyad.Mul, full(256, 0), num(1, 3), full(256, 3), api.OK},
		{dyad.Mul, full(256, 0), num(3, 0), api.Dyad{}, api.ErrLong},
		{dyad.Mul, full(256, 0), full(256, 0), api.Dyad{}, api.ErrLong},
	} {
		if d, e := c.do(c.a, c.b); e != c.e || !same(d, c.want) {
			t.Error(i, d, e)
		}
	}
}

// P2.4
func TestNegScale(t *testing.T) {
	for i, c := range []struct{ d, want api.Dyad }{{num(3, 1), num(-3, 1)}, {num(-5, 7), num(5, 7)}, {api.Dyad{}, api.Dyad{}}, {full(256, 65536), minus(full(256, 65536))}} {
		if d, e := dyad.Neg(c.d); e != api.OK || !same(d, c.want) {
			t.Error(i, d, e)
		}
	}
	for i, c := range []struct {
		d    api.Dyad
		n    int
		want api.Dyad
		e    api.Errno
	}{
		{num(1, 0), -65537, api.Dyad{}, api.ErrLong},
		{num(1, 0), -65536, num(1, -65536), api.OK},
		{num(1, 0), 65536, num(1, 65536), api.OK},
		{num(-1, 0), 65537, api.Dyad{}, api.ErrLong},
		{num(-3, -65536), 131072, num(-3, 65536), api.OK},
		{num(-3, 65536), -131072, num(-3, -65536), api.OK},
		{num(-3, 65536), -131073, api.Dyad{}, api.ErrLong},
		{num(1, 65536), math.MaxInt, api.Dyad{}, api.ErrLong},
		{num(1, -65536), math.MinInt, api.Dyad{}, api.ErrLong},
		{num(1, -65536), math.MaxInt, api.Dyad{}, api.ErrLong},
		{num(5, 5), 0, num(5, 5), api.OK},
		{api.Dyad{}, 1 << 62, api.Dyad{}, api.OK},
		{api.Dyad{}, math.MinInt, api.Dyad{}, api.OK},
	} {
		if d, e := dyad.Scale(c.d, c.n); e != c.e || !same(d, c.want) {
			t.Error(i, d, e)
		}
	}
}

// P2.4, P2.5: against math/big.
func TestReckonMany(t *testing.T) {
	r := rand.New(rand.NewSource(3))
	all := some(r, 700)
	const base = 65536
	for i, a := range all {
		b := all[r.Intn(len(all))]
		if i%3 == 0 { // powers near one another, so that sums are told too
			b.Exp = min(max(a.Exp+r.Intn(200)-100, -65536), 65536)
			if len(b.Mag) == 0 {
				b.Exp = 0
			}
		}
		x, y := value(a, base), value(b, base)
		for k, c := range []struct {
			do   func(a, b api.Dyad) (api.Dyad, api.Errno)
			want *big.Int
			exp  int
		}{{dyad.Add, new(big.Int).Add(x, y), -base}, {dyad.Sub, new(big.Int).Sub(x, y), -base}, {dyad.Mul, new(big.Int).Mul(x, y), -2 * base}} {
			want, f := rightOf(c.want, c.exp)
			if got, e := c.do(a, b); e != f || !same(got, want) {
				t.Error(i, k, e, f)
			}
		}
		if c, e := dyad.Cmp(a, b); e != api.OK || c != x.Cmp(y) {
			t.Error(i, c, e)
		}
		if s, e := dyad.Sign(a); e != api.OK || s != x.Sign() {
			t.Error(i, s, e)
		}
	}
}

// P2.5
func TestCompare(t *testing.T) {
	order := []api.Dyad{minus(full(256, 65536)), num(-3, 65536), num(-1, 65536), num(-1, 10), num(-1023, 0), num(-1, 0), num(-1, -65536), {}, num(1, -65536), num(1, 0), full(1, -63), {Mag: []uint64{1, 1}, Exp: -63}, num(1023, 0), num(1, 10), {Mag: []uint64{1, 1 << 6}, Exp: -60}, num(1025, 0), full(255, 65536), {Mag: append([]uint64{1}, slices.Repeat([]uint64{ones}, 255)...), Exp: 65536}, full(256, 65536)}
	for i, a := range order {
		for j, b := range order {
			want := 0
			if i < j {
				want = -1
			} else if i > j {
				want = 1
			}
			if c, e := dyad.Cmp(a, b); e != api.OK || c != want {
				t.Error(i, j, c, e)
			}
		}
		want := min(max(i-7, -1), 1)
		if s, e := dyad.Sign(a); e != api.OK || s != want {
			t.Error(i, s, e)
		}
	}
}

// P2.4 to P2.6: ErrArg comes first, and every other result is zero.
func TestWrong(t *testing.T) {
	for i, d := range wrong() {
		for k, other := range []api.Dyad{{}, num(1, 0), num(1, 65536), full(256, 65536), d} {
			for n, do := range []func(a, b api.Dyad) (api.Dyad, api.Errno){dyad.Add, dyad.Sub, dyad.Mul} {
				x, e := do(d, other)
				y, f := do(other, d)
				if e != api.ErrArg || f != api.ErrArg || !same(x, api.Dyad{}) || !same(y, api.Dyad{}) {
					t.Error(i, k, n, e, f)
				}
			}
			x, e := dyad.Cmp(d, other)
			y, f := dyad.Cmp(other, d)
			if e != api.ErrArg || f != api.ErrArg || x != 0 || y != 0 {
				t.Error(i, k, e, f)
			}
		}
		for _, n := range []int{0, 1 << 40, math.MinInt} {
			if x, e := dyad.Scale(d, n); e != api.ErrArg || !same(x, api.Dyad{}) {
				t.Error(i, e)
			}
		}
		if x, e := dyad.Neg(d); e != api.ErrArg || !same(x, api.Dyad{}) {
			t.Error(i, e)
		}
		if s, e := dyad.Sign(d); e != api.ErrArg || s != 0 {
			t.Error(i, e)
		}
		for _, m := range modes {
			if x, e := dyad.Round(d, m); e != api.ErrArg || !sameBits(x, 0) {
				t.Error(i, e)
			}
		}
		if dyad.Fits(d) {
			t.Error(i)
		}
	}
}

// P2.6
func TestRound(t *testing.T) {
	for i, c := range []struct {
		d    api.Dyad
		want [4]float64 // Nearest, Down, Up, Zero
	}{
		{api.Dyad{}, [4]float64{}},
		{num(3, -2), [4]float64{0.75, 0.75, 0.75, 0.75}},
		{num(1, -1075), [4]float64{0, 0, least, 0}},
		{num(-1, -1075), [4]float64{minus0, -least, minus0, minus0}},
		{num(3, -1076), [4]float64{least, 0, least, 0}},
		{num(-3, -1076), [4]float64{-least, -least, minus0, minus0}},
		{num(1, -1076), [4]float64{0, 0, least, 0}},
		{num(3, -1075), [4]float64{2 * least, least, 2 * least, least}},
		{num(5, -1075), [4]float64{2 * least, 2 * least, 3 * least, 2 * least}},
		{num(1, -65536), [4]float64{0, 0, least, 0}},
		{num(-1, -65536), [4]float64{minus0, -least, minus0, minus0}},
		{full(256, -65536), [4]float64{0, 0, least, 0}},
		{num(1<<53-1, -1075), [4]float64{0x1p-1022, 0x1p-1022 - least, 0x1p-1022, 0x1p-1022 - least}},
		{num(1, 1023), [4]float64{0x1p1023, 0x1p1023, 0x1p1023, 0x1p1023}},
		{num(1, 1024), [4]float64{inf, most, inf, most}},
		{num(-1, 1024), [4]float64{-inf, -inf, -most, -most}},
		{num(1<<54-1, 970), [4]float64{inf, most, inf, most}},
		{num(-(1<<54 - 1), 970), [4]float64{-inf, -inf, -most, -most}},
		{num(1<<55-3, 969), [4]float64{most, most, inf, most}},
		{num(1<<53-1, 971), [4]float64{most, most, most, most}},
		{num(1, 65536), [4]float64{inf, most, inf, most}},
		{full(256, 65536), [4]float64{inf, most, inf, most}},
		{full(16, 0), [4]float64{inf, most, inf, most}},
		{full(16, -1), [4]float64{0x1p1023, 0x1p1023 - 0x1p970, 0x1p1023, 0x1p1023 - 0x1p970}},
		{num(1<<54+1, 0), [4]float64{1 << 54, 1 << 54, 1<<54 + 4, 1 << 54}},
		{num(1<<53+1, 0), [4]float64{1 << 53, 1 << 53, 1<<53 + 2, 1 << 53}},
		{num(1<<53+3, 0), [4]float64{1<<53 + 4, 1<<53 + 2, 1<<53 + 4, 1<<53 + 2}},
		{num(-(1<<53 + 3), 0), [4]float64{-(1<<53 + 4), -(1<<53 + 4), -(1<<53 + 2), -(1<<53 + 2)}},
		{num(1<<60+1, -60), [4]float64{1, 1, 1 + 0x1p-52, 1}},
		{api.Dyad{Mag: []uint64{1, 1 << 12}, Exp: -76}, [4]float64{1, 1, 1 + 0x1p-52, 1}},                                  // 1 + 2^-76
		{api.Dyad{Mag: []uint64{1, 1 << 12}, Exp: -53}, [4]float64{0x1p23, 0x1p23, 0x1p23 + 0x1p-29, 0x1p23}},              // 2^23 + 2^-53
		{api.Dyad{Mag: []uint64{1<<23 | 1, 1 << 12}, Exp: -76}, [4]float64{1 + 0x1p-52, 1, 1 + 0x1p-52, 1}},                // just above a half
		{api.Dyad{Neg: true, Mag: []uint64{1<<23 | 1, 1 << 12}, Exp: -76}, [4]float64{-1 - 0x1p-52, -1 - 0x1p-52, -1, -1}}, // and below 0
		{api.Dyad{Mag: []uint64{1<<23 - 1, 1 << 12}, Exp: -76}, [4]float64{1, 1, 1 + 0x1p-52, 1}},                          // just below a half
	} {
		for m, want := range c.want {
			if x, e := dyad.Round(c.d, api.Mode(m)); e != api.OK || !sameBits(x, want) {
				t.Error(i, m, x, want, e)
			}
		}
		for _, m := range []api.Mode{4, 99, -1, -128, 127} {
			if x, e := dyad.Round(c.d, m); e != api.OK || !sameBits(x, c.want[0]) {
				t.Error(i, m, x, e)
			}
		}
	}
}

// P2.6
func TestFits(t *testing.T) {
	for i, c := range []struct {
		d    api.Dyad
		want bool
	}{
		{api.Dyad{}, true}, {num(1, -1074), true}, {num(-1, -1074), true}, {num(1, -1075), false}, {num(3, -1075), false}, {num(1, 1023), true}, {num(1, 1024), false},
		{num(3, 1022), true}, {num(3, 1023), false}, {num(1<<53-1, 971), true}, {num(-(1<<53 - 1), 971), true}, {num(1<<53-1, 972), false}, {num(1<<53-1, -1074), true}, {num(1<<53+1, 0), false},
		{full(1, 0), false}, {full(2, 0), false}, {api.Dyad{Mag: []uint64{1, 1}}, false}, {num(1, 65536), false}, {num(1, -65536), false}, {full(256, 0), false},
	} {
		if dyad.Fits(c.d) != c.want {
			t.Error(i)
		}
	}
}

// floats is finite floats of all powers of two, subnormal ones too, both signs of each.
func floats(r *rand.Rand, n int) []float64 {
	out := []float64{0, least, 3 * least, 0x1p-1022 - least, 0x1p-1022, 0.1, 1, 1 - 0x1p-53, 3, most, most - 0x1p971}
	for len(out) < n {
		if x := math.Abs(math.Float64frombits(r.Uint64())); x <= most {
			out = append(out, x, math.Float64frombits(r.Uint64()&(1<<52-1)))
		}
	}
	for _, x := range slices.Clone(out) {
		out = append(out, -x)
	}
	return out
}

// P2.6, P2.7: Round of Of(x) is x by every mode.
func TestRoundOf(t *testing.T) {
	for _, x := range floats(rand.New(rand.NewSource(4)), 2000) {
		d, e := dyad.Of(x)
		if e != api.OK || !dyad.Right(d) || !dyad.Fits(d) {
			t.Error(x, d, e)
		}
		for _, m := range modes {
			if y, e := dyad.Round(d, m); e != api.OK || !sameBits(y, x+0) {
				t.Error(x, m, y, e)
			}
		}
	}
}

// exactly is d as a big.Float that loses nothing.
func exactly(d api.Dyad) *big.Float {
	f := new(big.Float).SetPrec(20000).SetInt(value(api.Dyad{Neg: d.Neg, Mag: d.Mag}, 0))
	return f.SetMantExp(f, d.Exp)
}

// nearest rounds by math/big alone, which does not know the other modes of subnormal floats.
func nearest(d api.Dyad) float64 {
	x, _ := exactly(d).Float64()
	return x
}

// P2.6, P2.7: what Round tells of any dyad.
func TestRoundMany(t *testing.T) {
	r := rand.New(rand.NewSource(5))
	for i, d := range some(r, 3000) {
		if i%2 == 0 && len(d.Mag) > 0 { // so that most lie among the finite floats
			d.Mag = d.Mag[len(d.Mag)-1-i%min(len(d.Mag), 3):]
			d.Mag = slices.Clone(d.Mag)
			d.Mag[0] |= 1
			d.Exp = r.Intn(2200) - 1150
		}
		if !dyad.Right(d) {
			t.Fatal(i)
		}
		var told [4]float64
		for m := range told {
			told[m], _ = dyad.Round(d, api.Mode(m))
		}
		near, down, up, zero := told[0], told[1], told[2], told[3]
		x := exactly(d)
		if !sameBits(near, nearest(d)) || near != down && near != up {
			t.Error(i, near, nearest(d))
		}
		if big.NewFloat(down).Cmp(x) > 0 || big.NewFloat(up).Cmp(x) < 0 {
			t.Error(i, down, up)
		}
		if d.Neg && !sameBits(zero, up) || !d.Neg && !sameBits(zero, down) {
			t.Error(i, zero)
		}
		if dyad.Fits(d) != sameBits(down, up) {
			t.Error(i, down, up)
		}
		if !dyad.Fits(d) && math.Nextafter(down, inf) != up {
			t.Error(i, down, up)
		}
	}
}

// P2.7: numbers are added and multiplied in any order and grouping.
func TestLaws(t *testing.T) {
	r := rand.New(rand.NewSource(6))
	pick := func() api.Dyad {
		d := api.Dyad{Neg: r.Intn(2) == 1, Mag: make([]uint64, 1+r.Intn(40)), Exp: r.Intn(3000) - 1500}
		for i := range d.Mag {
			d.Mag[i] = []uint64{0, ones, r.Uint64()}[r.Intn(3)]
		}
		d, e := dyad.Norm(d)
		if e != api.OK {
			t.Fatal(e)
		}
		return d
	}
	must := func(d api.Dyad, e api.Errno) api.Dyad {
		if e != api.OK || !dyad.Right(d) {
			t.Fatal(e)
		}
		return d
	}
	add := func(a, b api.Dyad) api.Dyad { return must(dyad.Add(a, b)) }
	sub := func(a, b api.Dyad) api.Dyad { return must(dyad.Sub(a, b)) }
	mul := func(a, b api.Dyad) api.Dyad { return must(dyad.Mul(a, b)) }
	for i := range 300 {
		a, b, c := pick(), pick(), pick()
		laws := []bool{
			same(add(a, b), add(b, a)),
			same(add(add(a, b), c), add(a, add(b, c))),
			same(mul(a, b), mul(b, a)),
			same(mul(mul(a, b), c), mul(a, mul(b, c))),
			same(mul(a, add(b, c)), add(mul(a, b), mul(a, c))),
			same(sub(a, b), add(a, must(dyad.Neg(b)))),
			same(sub(a, a), api.Dyad{}),
			same(sub(add(a, b), b), a),
			same(must(dyad.Scale(a, 7)), mul(a, num(1, 7))),
		}
		for k, ok := range laws {
			if !ok {
				t.Error(i, k)
			}
		}
		x, _ := dyad.Cmp(a, b)
		y, _ := dyad.Sign(sub(a, b))
		if x != y {
			t.Error(i, x, y)
		}
	}
}

// R3: what is handed in stays as it is, with its spare room; what is handed out is new.
func TestMemory(t *testing.T) {
	room := func(d api.Dyad) api.Dyad {
		mag := make([]uint64, len(d.Mag)+4)
		copy(mag, d.Mag)
		for i := range 4 {
			mag[len(d.Mag)+i] = 77
		}
		d.Mag = mag[:len(d.Mag)]
		return d
	}
	spill := func(d api.Dyad) { // writes over all that an answer has, and behind it
		for i := range d.Mag[:cap(d.Mag)] {
			d.Mag[:cap(d.Mag)][i] = 99
		}
	}
	for i, pair := range [][2]api.Dyad{{num(3, 1), num(5, 2)}, {{}, num(5, 2)}, {num(5, 2), {}}, {{}, {}}, {full(3, 0), full(3, 0)}, {full(256, 0), num(1, 0)}} {
		a, b := room(pair[0]), room(pair[1])
		before := slices.Concat(a.Mag[:cap(a.Mag)], b.Mag[:cap(b.Mag)])
		var got []api.Dyad
		keep := func(d api.Dyad, e api.Errno) { got = append(got, d) }
		for range 2 {
			keep(dyad.Norm(a))
			keep(dyad.Add(a, b))
			keep(dyad.Sub(a, b))
			keep(dyad.Mul(a, b))
			keep(dyad.Neg(a))
			keep(dyad.Scale(b, 3))
			keep(dyad.Scale(b, 0))
		}
		half := len(got) / 2
		want := make([]api.Dyad, half)
		for k, d := range got[:half] {
			want[k] = api.Dyad{Neg: d.Neg, Mag: slices.Clone(d.Mag), Exp: d.Exp}
		}
		for _, d := range got[:half] {
			spill(d)
		}
		if !slices.Equal(before, slices.Concat(a.Mag[:cap(a.Mag)], b.Mag[:cap(b.Mag)])) {
			t.Error(i, "what was handed in has changed")
		}
		for k, d := range got[half:] {
			if !same(d, want[k]) {
				t.Error(i, k, "answers share memory")
			}
		}
	}
}
