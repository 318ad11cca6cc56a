package bits_test

import (
	"math"
	"math/big"
	"math/rand"
	"slices"
	"testing"

	"girder/api"
	"girder/bits"
)

const (
	least  = 0x1p-1074
	normal = 0x1p-1022
	most   = math.MaxFloat64
	last   = int64(9218868437227405312) // P
)

var (
	minus0   = math.Copysign(0, -1)
	plusInf  = math.Inf(1)
	minusInf = math.Inf(-1)
	nan      = math.NaN()
)

// nans differ in their bits: quiet and signalling ones, of both signs.
func nans() []float64 {
	var out []float64
	for _, b := range []uint64{0x7ff8000000000001, 0x7ff0000000000001, 0xfff8000000000000, 0xfff0000000000001, 0x7fffffffffffffff, 0xffffffffffffffff} {
		out = append(out, math.Float64frombits(b))
	}
	return out
}

// edges is what the chapter names, both signs of each, with what stands next to it.
func edges() []float64 {
	var out []float64
	for _, x := range []float64{0, least, 2 * least, 3 * least, normal / 2, normal - least, normal, normal + least, 2 * normal, 0.1, 0.75, 1 - 0x1p-53, 1, 1 + 0x1p-52, 1.5, 2, 3, 0x1p52, 0x1p53 - 1, 0x1p53, 0x1p1022, 0x1p1023, 0x1p1023 + 0x1p971, most / 2, most - 0x1p971, most, plusInf} {
		out = append(out, x, -x)
	}
	return append(out, minus0)
}

// many is the edges and floats of all exponents, the same ones at each run; no NaN.
func many() []float64 {
	r := rand.New(rand.NewSource(1))
	out := edges()
	for len(out) < 4000 {
		if x := math.Float64frombits(r.Uint64()); x == x {
			out = append(out, x)
		}
		out = append(out, math.Float64frombits(r.Uint64()&(1<<63|1<<52-1))) // subnormal
	}
	return out
}

func finite(x float64) bool { return !math.IsNaN(x) && !math.IsInf(x, 0) }

// sameBits holds two floats against each other without the package.
func sameBits(a, b float64) bool { return math.Float64bits(a) == math.Float64bits(b) }

// exact is frac times 2 to the power exp.
func exact(frac uint64, exp int) *big.Float {
	f := new(big.Float).SetPrec(64).SetUint64(frac)
	return f.SetMantExp(f, exp)
}

// P1.1
func TestSame(t *testing.T) {
	for i, a := range edges() {
		for j, b := range edges() {
			want := sameBits(a, b)
			if bits.Same(a, b) != want {
				t.Error(i, j, a, b, want)
			}
		}
		for _, n := range nans() {
			if bits.Same(a, n) || bits.Same(n, a) {
				t.Error(a, "same as NaN")
			}
		}
	}
	for _, a := range nans() {
		for _, b := range nans() {
			if !bits.Same(a, b) {
				t.Errorf("%x %x", math.Float64bits(a), math.Float64bits(b))
			}
		}
	}
	if bits.Same(0, minus0) || bits.Same(minus0, 0) {
		t.Error("noughts of both signs")
	}
}

// P1.2
func TestKind(t *testing.T) {
	for _, x := range []struct {
		size float64
		kind int
	}{{0, 0}, {least, 1}, {2 * least, 1}, {normal / 2, 1}, {normal - least, 1}, {normal, 2}, {1, 2}, {0.1, 2}, {most, 2}, {plusInf, 3}} {
		if k := bits.Kind(x.size); k != x.kind {
			t.Error(x, k)
		}
		if k := bits.Kind(math.Copysign(x.size, -1)); k != x.kind {
			t.Error("minus", x, k)
		}
	}
	for _, x := range nans() {
		if k := bits.Kind(x); k != 4 {
			t.Errorf("%x %d", math.Float64bits(x), k)
		}
	}
}

// P1.3
func TestSplit(t *testing.T) {
	for _, x := range []struct {
		f float64
		p api.Parts
	}{
		{0, api.Parts{}},
		{minus0, api.Parts{Neg: true}},
		{1, api.Parts{Frac: 1}},
		{-1, api.Parts{Neg: true, Frac: 1}},
		{1.5, api.Parts{Frac: 3, Exp: -1}},
		{0.75, api.Parts{Frac: 3, Exp: -2}},
		{6, api.Parts{Frac: 3, Exp: 1}},
		{0.1, api.Parts{Frac: 3602879701896397, Exp: -55}},
		{least, api.Parts{Frac: 1, Exp: -1074}},
		{-least, api.Parts{Neg: true, Frac: 1, Exp: -1074}},
		{2 * least, api.Parts{Frac: 1, Exp: -1073}},
		{normal - least, api.Parts{Frac: 1<<52 - 1, Exp: -1074}},
		{normal, api.Parts{Frac: 1, Exp: -1022}},
		{normal + least, api.Parts{Frac: 1<<52 + 1, Exp: -1074}},
		{0x1p53 - 1, api.Parts{Frac: 1<<53 - 1}},
		{0x1p1023, api.Parts{Frac: 1, Exp: 1023}},
		{most, api.Parts{Frac: 1<<53 - 1, Exp: 971}},
		{-most, api.Parts{Neg: true, Frac: 1<<53 - 1, Exp: 971}},
	} {
		if p, ok := bits.Split(x.f); p != x.p || !ok {
			t.Error(x, p, ok)
		}
		if f, ok := bits.Join(x.p); !sameBits(f, x.f) || !ok {
			t.Error(x, f, ok)
		}
	}
	for _, x := range append(nans(), plusInf, minusInf) {
		if p, ok := bits.Split(x); ok || p != (api.Parts{}) {
			t.Error(x, p, ok)
		}
	}
}

// P1.3: what no finite float has as its parts.
func TestJoinWrong(t *testing.T) {
	for _, p := range []api.Parts{
		{Frac: 2}, {Frac: 4, Exp: -2}, {Frac: 1 << 52}, {Frac: 1 << 63}, {Frac: math.MaxUint64 - 1},
		{Exp: 1}, {Exp: -1}, {Exp: -1074}, {Exp: math.MaxInt}, {Exp: math.MinInt},
		{Frac: 1, Exp: 1024}, {Frac: 1, Exp: -1075}, {Frac: 1, Exp: 1025}, {Frac: 1, Exp: -1076},
		{Frac: 3, Exp: 1023}, {Frac: 3, Exp: -1075}, {Frac: 1<<53 - 1, Exp: 972}, {Frac: 1<<53 - 1, Exp: -1075},
		{Frac: 1<<52 + 1, Exp: 972}, {Frac: 1<<53 - 1, Exp: 1023},
		{Frac: 1<<53 + 1}, {Frac: 1<<53 + 1, Exp: -1074}, {Frac: 1<<54 - 1}, {Frac: 1<<63 + 1}, {Frac: math.MaxUint64},
		{Frac: math.MaxUint64, Exp: -1074}, {Frac: math.MaxUint64, Exp: 960},
		{Frac: 1, Exp: math.MaxInt}, {Frac: 1, Exp: math.MinInt}, {Frac: 1<<53 - 1, Exp: math.MaxInt}, {Frac: 1<<53 - 1, Exp: math.MinInt},
	} {
		for _, neg := range []bool{false, true} {
			p.Neg = neg
			if f, ok := bits.Join(p); ok || !sameBits(f, 0) {
				t.Error(p, f, ok)
			}
		}
	}
}

// P1.3: at every Exp, by exact numbers.
func TestJoinEveryExp(t *testing.T) {
	for exp := -1080; exp <= 1030; exp++ {
		for _, frac := range []uint64{1, 3, 5, 1<<27 + 1, 1<<52 - 1, 1<<52 + 1, 1<<53 - 1, 1<<53 + 1, 1<<54 - 1} {
			want, how := exact(frac, exp).Float64()
			is := how == big.Exact && !math.IsInf(want, 0)
			if !is {
				want = 0
			}
			if f, ok := bits.Join(api.Parts{Frac: frac, Exp: exp}); !sameBits(f, want) || ok != is {
				t.Error(frac, exp, f, ok, want, is)
			}
			if is {
				want = -want
			}
			if f, ok := bits.Join(api.Parts{Neg: true, Frac: frac, Exp: exp}); !sameBits(f, want) || ok != is {
				t.Error("minus", frac, exp, f, ok, want, is)
			}
		}
	}
}

// P1.3, P1.9: Split and Join undo one another; the parts are what the chapter says.
func TestSplitJoin(t *testing.T) {
	for _, x := range many() {
		p, ok := bits.Split(x)
		if ok != finite(x) {
			t.Error(x, p, ok)
		}
		if !ok {
			continue
		}
		if f, is := bits.Join(p); !sameBits(f, x) || !is {
			t.Error(x, p, f, is)
		}
		if p.Neg != math.Signbit(x) || x == 0 && (p.Frac != 0 || p.Exp != 0) || x != 0 && p.Frac%2 == 0 {
			t.Error(x, p)
		}
		if exact(p.Frac, p.Exp).Cmp(big.NewFloat(math.Abs(x))) != 0 {
			t.Error(x, p)
		}
	}
}

// P1.4
func TestPlace(t *testing.T) {
	for _, x := range []struct {
		f float64
		n int64
	}{{0, 0}, {least, 1}, {2 * least, 2}, {normal - least, 1<<52 - 1}, {normal, 1 << 52}, {1, 4607182418800017408}, {2, 4607182418800017408 + 1<<52}, {most, last - 1}, {plusInf, last}} {
		if n, ok := bits.Place(x.f); n != x.n || !ok {
			t.Error(x, n, ok)
		}
		if f, ok := bits.At(x.n); !sameBits(f, x.f) || !ok {
			t.Error(x, f, ok)
		}
		if n, ok := bits.Place(-x.f); n != -x.n || !ok {
			t.Error("minus", x, n, ok)
		}
		if f, ok := bits.At(-x.n); f != -x.f || !ok {
			t.Error("minus", x, f, ok)
		}
	}
	if n, ok := bits.Place(minus0); n != 0 || !ok {
		t.Error("-0", n, ok)
	}
	if f, ok := bits.At(0); !sameBits(f, 0) || !ok {
		t.Error("at 0", f, ok)
	}
	for _, x := range nans() {
		if n, ok := bits.Place(x); n != 0 || ok {
			t.Error("NaN", n, ok)
		}
	}
	for _, n := range []int64{last + 1, -last - 1, last + 2, -last - 2, math.MaxInt64, math.MinInt64, math.MinInt64 + 1} {
		if f, ok := bits.At(n); ok || !sameBits(f, 0) {
			t.Error(n, f, ok)
		}
	}
}

// P1.9: At and Place undo one another, but for -0; places rise with the floats.
func TestPlaceAt(t *testing.T) {
	r := rand.New(rand.NewSource(2))
	for range 4000 {
		n := r.Int63n(last + 1)
		if r.Intn(2) == 0 {
			n = -n
		}
		f, ok := bits.At(n)
		if back, is := bits.Place(f); back != n || !ok || !is {
			t.Error(n, f, back)
		}
		if n < last {
			if above, _ := bits.At(n + 1); !(f < above) {
				t.Error(n, f, above)
			}
		}
	}
	for _, x := range many() {
		n, ok := bits.Place(x)
		f, is := bits.At(n)
		if !ok || !is || f != x || x != 0 && !sameBits(f, x) || x == 0 && !sameBits(f, 0) {
			t.Error(x, n, f)
		}
	}
}

// P1.5
func TestNext(t *testing.T) {
	for _, x := range []struct{ f, down, up float64 }{
		{0, -least, least},
		{minus0, -least, least},
		{least, 0, 2 * least},
		{-least, -2 * least, 0},
		{normal, normal - least, normal + least},
		{1, 1 - 0x1p-53, 1 + 0x1p-52},
		{-1, -1 - 0x1p-52, -1 + 0x1p-53},
		{0x1p1023, 0x1p1023 - 0x1p970, 0x1p1023 + 0x1p971},
		{most, most - 0x1p971, plusInf},
		{-most, minusInf, -most + 0x1p971},
		{plusInf, most, plusInf},
		{minusInf, minusInf, -most},
	} {
		if f := bits.Next(x.f, true); !sameBits(f, x.up) {
			t.Error("up", x, f)
		}
		if f := bits.Next(x.f, false); !sameBits(f, x.down) {
			t.Error("down", x, f)
		}
	}
	for _, x := range nans() {
		if !math.IsNaN(bits.Next(x, true)) || !math.IsNaN(bits.Next(x, false)) {
			t.Error("NaN")
		}
	}
}

// P1.5, P1.9: one place off, and back again.
func TestNextBack(t *testing.T) {
	for _, x := range many() {
		place, _ := bits.Place(x)
		for _, up := range []bool{true, false} {
			f := bits.Next(x, up)
			step := int64(-1)
			if up {
				step = 1
			}
			if math.IsInf(x, int(step)) {
				if !sameBits(f, x) {
					t.Error(x, up, f)
				}
				continue
			}
			if n, ok := bits.Place(f); n != place+step || !ok || n == 0 && !sameBits(f, 0) {
				t.Error(x, up, f, n)
			}
			if back := bits.Next(f, !up); back != x || x != 0 && !sameBits(back, x) {
				t.Error(x, up, f, back)
			}
		}
	}
}

// P1.6
func TestUlp(t *testing.T) {
	for _, x := range []struct{ size, ulp float64 }{{0, least}, {least, least}, {normal - least, least}, {normal, least}, {2*normal - least, least}, {2 * normal, 2 * least}, {1 - 0x1p-53, 0x1p-53}, {1, 0x1p-52}, {1.5, 0x1p-52}, {2, 0x1p-51}, {0x1p1023, 0x1p971}, {most, 0x1p971}, {most - 0x1p971, 0x1p971}} {
		for _, f := range []float64{x.size, math.Copysign(x.size, -1)} {
			if u, ok := bits.Ulp(f); !sameBits(u, x.ulp) || !ok {
				t.Error(f, u, ok)
			}
		}
	}
	for _, x := range many() {
		u, ok := bits.Ulp(x)
		size := math.Abs(x)
		if !finite(x) {
			if ok || !sameBits(u, 0) {
				t.Error(x, u, ok)
			}
		} else if above := math.Nextafter(size, plusInf); !ok || finite(above) && above-size != u {
			t.Error(x, u, ok)
		}
	}
	for _, x := range nans() {
		if u, ok := bits.Ulp(x); ok || !sameBits(u, 0) {
			t.Error("NaN", u, ok)
		}
	}
}

// P1.7
func TestOrder(t *testing.T) {
	row := []float64{minusInf, -most, -2, -1, -normal, -normal + least, -least, minus0, 0, least, normal - least, normal, 1, 1 + 0x1p-52, 2, most, plusInf, nan}
	for i, a := range row {
		for j, b := range row {
			want := 0
			if i < j {
				want = -1
			} else if i > j {
				want = 1
			}
			if got := bits.Order(a, b); got != want {
				t.Error(a, b, got, want)
			}
		}
	}
	for _, a := range nans() {
		for _, b := range nans() {
			if got := bits.Order(a, b); got != 0 {
				t.Error("NaN", got)
			}
		}
		if bits.Order(a, minusInf) != 1 || bits.Order(minusInf, a) != -1 || bits.Order(a, plusInf) != 1 || bits.Order(plusInf, a) != -1 {
			t.Error("NaN and infinities")
		}
	}
}

// P1.9: Order is one of all floats, and agrees with <, where that tells two apart.
func TestOrderOfAll(t *testing.T) {
	all := slices.Concat(many(), nans())
	slices.SortFunc(all, bits.Order)
	for i := range all[1:] {
		a, b := all[i], all[i+1]
		if o := bits.Order(a, b); o > 0 || o != -bits.Order(b, a) || (o == 0) != bits.Same(a, b) {
			t.Error(a, b, o)
		}
		if a > b || math.IsNaN(a) && !math.IsNaN(b) {
			t.Error(a, b)
		}
	}
	r := rand.New(rand.NewSource(3))
	for range 4000 {
		a, b := all[r.Intn(len(all))], all[r.Intn(len(all))]
		if o := bits.Order(a, b); a < b && o != -1 || a > b && o != 1 || o != -bits.Order(b, a) {
			t.Error(a, b, o)
		}
	}
}

// P1.8
func TestBetween(t *testing.T) {
	for _, x := range []struct {
		a, b float64
		n    uint64
	}{
		{minus0, 0, 0}, {0, minus0, 0}, {1, 1, 0}, {plusInf, plusInf, 0}, {minusInf, minusInf, 0},
		{1, 2, 1 << 52}, {-2, -1, 1 << 52}, {0, least, 1}, {minus0, least, 1}, {-least, 0, 1}, {-least, minus0, 1}, {-least, least, 2},
		{0, normal, 1 << 52}, {most, plusInf, 1}, {0, plusInf, uint64(last)}, {minusInf, 0, uint64(last)},
		{minusInf, plusInf, 2 * uint64(last)}, {-most, most, 2*uint64(last) - 2},
	} {
		if n, ok := bits.Between(x.a, x.b); n != x.n || !ok {
			t.Error(x, n, ok)
		}
		if n, ok := bits.Between(x.b, x.a); x.n != 0 && (n != 0 || ok) {
			t.Error("other way", x, n, ok)
		}
	}
	for _, x := range edges() {
		for _, n := range nans() {
			for _, pair := range [][2]float64{{x, n}, {n, x}, {n, n}} {
				if m, ok := bits.Between(pair[0], pair[1]); m != 0 || ok {
					t.Error(pair, m, ok)
				}
			}
		}
	}
}

// P1.9: Between(a, b) and Between(b, c) are Between(a, c) together.
func TestBetweenAdds(t *testing.T) {
	all := many()
	r := rand.New(rand.NewSource(4))
	for range 4000 {
		three := []float64{all[r.Intn(len(all))], all[r.Intn(len(all))], all[r.Intn(len(all))]}
		slices.Sort(three)
		ab, ok1 := bits.Between(three[0], three[1])
		bc, ok2 := bits.Between(three[1], three[2])
		ac, ok3 := bits.Between(three[0], three[2])
		if !ok1 || !ok2 || !ok3 || ab+bc != ac || ac < ab {
			t.Error(three, ab, bc, ac)
		}
	}
}

// DOC.md, example 1.
func TestExample(t *testing.T) {
	if f := bits.Next(1, true); f != 1+0x1p-52 {
		t.Error(f)
	}
	if n, ok := bits.Place(-1); n != -4607182418800017408 || !ok {
		t.Error(n, ok)
	}
	if p, ok := bits.Split(0.75); p != (api.Parts{Frac: 3, Exp: -2}) || !ok {
		t.Error(p, ok)
	}
}
