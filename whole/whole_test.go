package whole_test

import (
	"math"
	"math/big"
	"math/rand"
	"slices"
	"testing"

	"girder/api"
	"girder/whole"
)

const ones = math.MaxUint64

// value is the value of a.
func value(a whole.Number) *big.Int {
	v := new(big.Int)
	for _, limb := range slices.Backward(a.Mag) {
		v.Lsh(v, 64).Or(v, new(big.Int).SetUint64(limb))
	}
	if a.Neg {
		v.Neg(v)
	}
	return v
}

// isNumber tells whether a is written as a number must be.
func isNumber(a whole.Number) bool {
	n := len(a.Mag)
	return n == 0 && !a.Neg || n > 0 && a.Mag[n-1] != 0
}

// is fails unless got is want, written as it must be.
func is(t *testing.T, what string, got whole.Number, want *big.Int) {
	t.Helper()
	if !isNumber(got) || value(got).Cmp(want) != 0 {
		t.Fatalf("%s: %v, want %v", what, got, want)
	}
}

// some are numbers of both signs and many lengths.
func some(r *rand.Rand) []whole.Number {
	var out []whole.Number
	for _, n := range []int64{0, 1, -1, 2, -7, math.MaxInt64, math.MinInt64} {
		out = append(out, whole.Int(n))
	}
	for range 60 {
		mag := make([]uint64, r.Intn(6))
		for i := range mag {
			mag[i] = []uint64{0, 1, ones, 1 << 63, r.Uint64()}[r.Intn(5)]
		}
		a := whole.Of(r.Intn(2) == 0, mag)
		out = append(out, a, a)
	}
	return out
}

func TestInt(t *testing.T) {
	for _, n := range []int64{0, 1, -1, 5, -5, 1 << 62, math.MaxInt64, -math.MaxInt64, math.MinInt64} {
		is(t, "Int", whole.Int(n), big.NewInt(n))
	}
}

func TestOf(t *testing.T) {
	for _, neg := range []bool{false, true} {
		for _, mag := range [][]uint64{nil, {}, {0}, {0, 0}} {
			is(t, "Of", whole.Of(neg, mag), new(big.Int))
		}
	}
	is(t, "Of", whole.Of(true, []uint64{3, 0, 0}), big.NewInt(-3))
	is(t, "Of", whole.Of(false, []uint64{0, 1, 0}), new(big.Int).Lsh(big.NewInt(1), 64))
}

func TestIsZero(t *testing.T) {
	if !whole.IsZero(whole.Number{}) || !whole.IsZero(whole.Int(0)) || whole.IsZero(whole.Int(-1)) || whole.IsZero(whole.Int(1)) {
		t.Error("IsZero")
	}
}

func TestReckon(t *testing.T) {
	numbers := some(rand.New(rand.NewSource(1)))
	for _, a := range numbers {
		for _, b := range numbers {
			x, y := value(a), value(b)
			is(t, "Minus", whole.Minus(a), new(big.Int).Neg(x))
			is(t, "Add", whole.Add(a, b), new(big.Int).Add(x, y))
			is(t, "Sub", whole.Sub(a, b), new(big.Int).Sub(x, y))
			product := whole.Mul(a, b)
			is(t, "Mul", product, new(big.Int).Mul(x, y))
			if !whole.IsZero(b) {
				is(t, "Over", whole.Over(product, b), x)
			}
			is(t, "the first number", a, x)
			is(t, "the second number", b, y)
		}
	}
}

// A dyad may have noughts at either end, and any Exp that does not wrap.
func TestScaled(t *testing.T) {
	for _, x := range []struct {
		d    api.Dyad
		low  int
		want *big.Int
	}{
		{api.Dyad{}, 0, new(big.Int)},
		{api.Dyad{Neg: true, Mag: []uint64{0}, Exp: 9}, -5, new(big.Int)},
		{api.Dyad{Mag: []uint64{3}, Exp: 2}, 2, big.NewInt(3)},
		{api.Dyad{Neg: true, Mag: []uint64{3}, Exp: 2}, -1, big.NewInt(-24)},
		{api.Dyad{Mag: []uint64{24, 0}, Exp: -7}, -5, big.NewInt(6)},
		{api.Dyad{Mag: []uint64{5}, Exp: -70}, -134, new(big.Int).Lsh(big.NewInt(5), 64)},
		{api.Dyad{Neg: true, Mag: []uint64{0, 6}, Exp: 100000}, 100064, big.NewInt(-6)},
	} {
		is(t, "Scaled", whole.Scaled(x.d, x.low), x.want)
	}
}

// Dyads that need not be right: noughts at either end, of either sign, any Exp, more limbs than a right one has.
func TestLessAndTimes(t *testing.T) {
	r := rand.New(rand.NewSource(2))
	dyads := []api.Dyad{{}, {Mag: []uint64{}}, {Neg: true, Mag: []uint64{0, 0}, Exp: 5}, {Neg: true, Exp: -3}, {Mag: []uint64{1}}, {Neg: true, Mag: []uint64{1}}, {Mag: []uint64{2}, Exp: -1}, {Mag: []uint64{1}, Exp: 3000}}
	for _, a := range some(r) {
		dyads = append(dyads, api.Dyad{Neg: a.Neg, Mag: append([]uint64{0}, append(a.Mag, 0)...), Exp: r.Intn(400) - 200})
	}
	dyads = append(dyads, api.Dyad{Mag: slices.Repeat([]uint64{ones}, api.MaxLimbs+50), Exp: -200})
	const low = -250
	valueOf := func(d api.Dyad, low int) *big.Int { return value(whole.Scaled(d, low)) }
	for _, a := range dyads {
		for _, b := range dyads {
			x, y := valueOf(a, low), valueOf(b, low)
			less, times := whole.Less(a, b), whole.Times(a, b)
			for _, d := range []api.Dyad{less, times} {
				is(t, "the limbs", whole.Number{Neg: d.Neg, Mag: d.Mag}, value(whole.Of(d.Neg, d.Mag)))
			}
			if got := valueOf(less, low); got.Cmp(new(big.Int).Sub(x, y)) != 0 {
				t.Fatal("Less", a, b, less)
			}
			if got := valueOf(times, 2*low); got.Cmp(new(big.Int).Mul(x, y)) != 0 {
				t.Fatal("Times", a, b, times)
			}
			if valueOf(a, low).Cmp(x) != 0 || valueOf(b, low).Cmp(y) != 0 {
				t.Fatal("changed", a, b)
			}
		}
	}
}

func TestExtent(t *testing.T) {
	none := api.Dyad{}
	for _, x := range []struct {
		dyads      []api.Dyad
		low, width int
	}{
		{nil, 0, 0},
		{[]api.Dyad{none, {Mag: []uint64{0}, Exp: 9}, {Mag: []uint64{0, 0}, Exp: -9}}, 0, 0},
		{[]api.Dyad{{Mag: []uint64{1}, Exp: 60000}}, 60000, 1},
		{[]api.Dyad{none, {Neg: true, Mag: []uint64{5}, Exp: -3}, none}, -3, 3},
		{[]api.Dyad{{Mag: []uint64{12}, Exp: 4}}, 6, 2},
		{[]api.Dyad{{Mag: []uint64{0, 4, 0}, Exp: -10}}, 56, 1},
		{[]api.Dyad{{Mag: []uint64{1}, Exp: -7}, {Neg: true, Mag: []uint64{1}, Exp: 7}, {Mag: []uint64{1, 1}, Exp: -3}}, -7, 69},
		{[]api.Dyad{{Mag: []uint64{1}, Exp: 7}, {Mag: []uint64{3}, Exp: 5}, {Mag: []uint64{1}, Exp: 6}}, 5, 3},
	} {
		if low, width := whole.Extent(x.dyads); low != x.low || width != x.width {
			t.Error(x.dyads, low, width)
		}
	}
}

// Ratios whose Dens are alike, have divisors in common, have none, and are longer than limbs.
func TestCommonDen(t *testing.T) {
	ratioOf := func(num, den int64) api.Ratio {
		n := whole.Int(num)
		return api.Ratio{Neg: n.Neg, Num: n.Mag, Den: whole.Int(den).Mag}
	}
	for _, x := range []struct {
		ratios []api.Ratio
		want   int64
	}{
		{nil, 1},
		{[]api.Ratio{ratioOf(0, 1)}, 1},
		{[]api.Ratio{ratioOf(-7, 12)}, 12},
		{[]api.Ratio{ratioOf(1, 4), ratioOf(0, 1), ratioOf(5, 6), ratioOf(-3, 4)}, 12},
		{[]api.Ratio{ratioOf(1, 7), ratioOf(1, 5), ratioOf(1, 35)}, 35},
		{[]api.Ratio{ratioOf(1, 1<<40), ratioOf(3, 1<<20)}, 1 << 40},
	} {
		den := whole.CommonDen(x.ratios)
		is(t, "CommonDen", den, big.NewInt(x.want))
		for _, r := range x.ratios {
			of := new(big.Rat).SetFrac(value(whole.Of(r.Neg, r.Num)), value(whole.Of(false, r.Den)))
			is(t, "TimesDen", whole.TimesDen(r, den), of.Mul(of, new(big.Rat).SetInt64(x.want)).Num())
		}
	}
	third := slices.Repeat([]uint64{ones}, api.MaxLimbs) // 3 divides it, 2 does not
	two := append(make([]uint64, api.MaxLimbs-1), 2)
	long := []api.Ratio{{Num: []uint64{1}, Den: third}, {Neg: true, Num: []uint64{5}, Den: two}, {Num: []uint64{1}, Den: []uint64{3}}}
	den := whole.CommonDen(long)
	all := new(big.Int).Mul(value(whole.Of(false, third)), value(whole.Of(false, two)))
	is(t, "CommonDen of long ones", den, all)
	is(t, "TimesDen of the first", whole.TimesDen(long[0], den), value(whole.Of(false, two)))
	fives := new(big.Int).Mul(big.NewInt(-5), value(whole.Of(false, third)))
	is(t, "TimesDen of the second", whole.TimesDen(long[1], den), fives)
	is(t, "TimesDen of the third", whole.TimesDen(long[2], den), new(big.Int).Quo(all, big.NewInt(3)))
}
