package narrow_test

import (
	"go/ast"
	"go/parser"
	"go/token"
	"math"
	"math/big"
	"math/rand"
	"testing"

	"girder/api"
	"girder/bits"
	"girder/narrow"
	"girder/round"
)

const (
	least  = 0x1p-149
	normal = 0x1p-126
	most   = 0x1p128 - 0x1p104
	tooBig = 0x1p128 - 0x1p103 // from here on Nearest tells the infinity
	last   = 1<<31 - 1<<23     // the place of plus infinity
)

var (
	minus0 = float32(math.Copysign(0, -1))
	inf    = float32(math.Inf(1))
	nan    = float32(math.NaN())
	wide0  = math.Copysign(0, -1)
	modes  = []api.Mode{api.Nearest, api.Down, api.Up, api.Zero}
	others = []api.Mode{-128, -1, 4, 99, 127} // no ways of rounding: they count as Nearest
)

// nans is NaN of both signs, quiet and signalling ones, with the least and the most bits.
var nans = []uint32{0x7FC00000, 0x7F800001, 0x7FBFFFFF, 0x7FFFFFFF, 0xFFC00000, 0xFF800001, 0xFFFFFFFF, 0x7FC00001, 0xFFABCDEF}

func same(a, b float32) bool {
	return math.Float32bits(a) == math.Float32bits(b) || a != a && b != b
}

func sameWide(a, b float64) bool {
	return math.Float64bits(a) == math.Float64bits(b) || a != a && b != b
}

func up(x float64) float64   { return math.Nextafter(x, math.Inf(1)) }
func down(x float64) float64 { return math.Nextafter(x, math.Inf(-1)) }

// at is the narrow float at a place, and placeOf the place, both as the chapter counts them.
func at(place int64) float32 {
	if place < 0 {
		return -math.Float32frombits(uint32(-place))
	}
	return math.Float32frombits(uint32(place))
}

func placeOf(f float32) int64 {
	size := int64(math.Float32bits(f) & 0x7FFFFFFF)
	if f < 0 {
		return -size
	}
	return size
}

// pool is narrow floats at all edges, of both signs, and NaN.
func pool() []float32 {
	out := []float32{nan}
	for _, f := range []float32{
		0, least, 2 * least, 3 * least, 5 * least, normal / 2, normal/2 + least, normal - least, normal, normal + least, 2 * normal,
		0x1p-101, 0x1p-100, 0x1p-76, 0x1p-75, 0x1.000002p-75, 0x1.6a09e6p-75, 0x1p-74, 0x1p-63, 0x1p-25, 0x1p-24, 0x1p-23,
		0.1, 1.0 / 3, 0.5, 1 - 0x1p-24, 1, 1 + 0x1p-23, 1.5, 2, 3, 10, 1<<24 - 1, 1 << 24, 1<<24 + 2, 0x1p63, 0x1.fffffep63, 0x1p64,
		0x1p103, 0x1p104, 0x1p127, most / 2, most - 0x1p104, most, inf,
	} {
		out = append(out, f, -f)
	}
	return out
}

// anyNarrow is narrow floats of all sizes, the same ones at each run: all bits at random, few bits, subnormal, or near 1.
func anyNarrow(r *rand.Rand) float32 {
	f := math.Float32frombits(r.Uint32())
	switch r.Intn(5) {
	case 0:
		f = float32(math.Ldexp(float64(r.Intn(1<<r.Intn(12))), r.Intn(290)-150))
	case 1:
		f = at(r.Int63n(1 << 23))
	case 2:
		f = 1 + float32(r.Intn(1<<12)-1<<11)*0x1p-23
	case 3:
		f = float32(math.Ldexp(float64(1<<23+r.Intn(1<<23)), r.Intn(60)-50))
	}
	if r.Intn(2) == 0 {
		f = -f
	}
	return f
}

// wides is floats at and beside narrow ones, and at and beside the middles between them, and those that are far too great or too little.
func wides(n int) []float64 {
	out := []float64{math.NaN(), 0x1p-1074, 0x1p-1022, 1e-300, 0x1p-200, math.Pi, 1e300, 0x1p128, down(0x1p128), 0x1p129, 0x1p1023, math.MaxFloat64}
	list, r := pool(), rand.New(rand.NewSource(1))
	for range n {
		list = append(list, anyNarrow(r))
		out = append(out, math.Float64frombits(r.Uint64()))
	}
	for _, f := range list {
		x := float64(f)
		middle := x + (float64(math.Nextafter32(f, inf))-x)/2
		if f == most {
			middle = tooBig
		}
		out = append(out, x, up(x), down(x), middle, up(middle), down(middle))
	}
	for _, x := range out {
		out = append(out, -x)
	}
	return out
}

// P4.1: Same goes by bits, and takes all NaN as one.
func TestSame(t *testing.T) {
	for i, a := range pool() {
		for j, b := range pool() {
			if got := narrow.Same(a, b); got != (i == j) {
				t.Errorf("Same of %x and %x: %v", a, b, got)
			}
		}
	}
	for _, u := range nans {
		for _, v := range nans {
			if !narrow.Same(math.Float32frombits(u), math.Float32frombits(v)) {
				t.Errorf("NaN %x and NaN %x are not the same", u, v)
			}
		}
	}
}

// number is what 32 bits stand for, put together by hand: the sign, eight bits, 23 bits.
func number(u uint32) float64 {
	sign, exp, frac := u>>31, int(u>>23&0xFF), float64(u&0x7FFFFF)
	var x float64
	switch {
	case exp == 255 && frac != 0:
		return math.NaN()
	case exp == 255:
		x = math.Inf(1)
	case exp == 0:
		x = math.Ldexp(frac, -149)
	default:
		x = math.Ldexp(frac+0x1p23, exp-150)
	}
	if sign == 1 {
		x = -x
	}
	return x
}

// someBits is all kinds of bits: those of pool, NaN, and some at even steps.
func someBits() []uint32 {
	out := append([]uint32{}, nans...)
	for _, f := range pool() {
		out = append(out, math.Float32bits(f))
	}
	for u := uint64(0); u < 1<<32; u += 9973 {
		out = append(out, uint32(u))
	}
	return out
}

// P4.1, P4.4: Back, Bits, From against what the bits stand for.
func TestBackBitsFrom(t *testing.T) {
	for _, u := range someBits() {
		x := number(u)
		f := narrow.From(u)
		if back := narrow.Back(f); !sameWide(back, x) {
			t.Fatalf("Back of the bits %08X: %x, want %x", u, back, x)
		}
		want := u
		if x != x {
			want = 0x7FC00000
		} else if math.Float32bits(f) != u {
			t.Fatalf("From(%08X) has the bits %08X", u, math.Float32bits(f))
		}
		if got := narrow.Bits(f); got != want {
			t.Fatalf("Bits of From(%08X): %08X", u, got)
		}
	}
	for _, u := range nans {
		if got := narrow.Bits(math.Float32frombits(u)); got != 0x7FC00000 {
			t.Errorf("Bits of the NaN %08X: %08X", u, got)
		}
	}
}

// P4.4: example 2.
func TestBitsExamples(t *testing.T) {
	for _, c := range []struct {
		f float32
		u uint32
	}{
		{1, 0x3F800000}, {minus0, 0x80000000}, {0, 0}, {least, 1}, {-least, 0x80000001}, {inf, 0x7F800000}, {-inf, 0xFF800000},
		{normal, 0x00800000}, {normal - least, 0x007FFFFF}, {most, 0x7F7FFFFF}, {-most, 0xFF7FFFFF}, {-2, 0xC0000000},
	} {
		if got := narrow.Bits(c.f); got != c.u {
			t.Errorf("Bits of %x: %08X, want %08X", c.f, got, c.u)
		}
		if got := narrow.From(c.u); !same(got, c.f) {
			t.Errorf("From of %08X: %x, want %x", c.u, got, c.f)
		}
	}
	if got := narrow.Bits(nan); got != 0x7FC00000 {
		t.Errorf("Bits of NaN: %08X", got)
	}
}

// P4.4: the parts of narrow floats.
func TestSplit(t *testing.T) {
	for _, c := range []struct {
		f  float32
		p  api.Parts
		ok bool
	}{
		{1.5, api.Parts{Frac: 3, Exp: -1}, true},
		{-least, api.Parts{Neg: true, Frac: 1, Exp: -149}, true},
		{normal - least, api.Parts{Frac: 1<<23 - 1, Exp: -149}, true},
		{normal, api.Parts{Frac: 1, Exp: -126}, true},
		{-most, api.Parts{Neg: true, Frac: 1<<24 - 1, Exp: 104}, true},
		{0x1p127, api.Parts{Frac: 1, Exp: 127}, true},
		{0.1, api.Parts{Frac: 13421773, Exp: -27}, true},
		{0, api.Parts{}, true},
		{minus0, api.Parts{Neg: true}, true},
		{inf, api.Parts{}, false}, {-inf, api.Parts{}, false}, {nan, api.Parts{}, false}, {math.Float32frombits(0xFF800001), api.Parts{}, false},
	} {
		if p, ok := narrow.Split(c.f); p != c.p || ok != c.ok {
			t.Errorf("Split of %x: %v, %v, want %v, %v", c.f, p, ok, c.p, c.ok)
		}
	}
	for _, u := range someBits() {
		p, ok := narrow.Split(narrow.From(u))
		if q, good := bits.Split(number(u)); p != q || ok != good {
			t.Fatalf("Split of the bits %08X: %v, %v, want %v, %v", u, p, ok, q, good)
		}
	}
}

// P4.3: steps at the edges, in both directions.
func TestNextEdges(t *testing.T) {
	for _, c := range []struct{ f, above, below float32 }{
		{0, least, -least}, {minus0, least, -least},
		{least, 2 * least, 0}, {-least, 0, -2 * least},
		{normal - least, normal, normal - 2*least}, {normal, normal + least, normal - least}, {-normal, least - normal, -normal - least},
		{1, 1 + 0x1p-23, 1 - 0x1p-24}, {-1, 0x1p-24 - 1, -1 - 0x1p-23}, {2, 2 + 0x1p-22, 2 - 0x1p-23},
		{most, inf, most - 0x1p104}, {-most, 0x1p104 - most, -inf},
		{inf, inf, most}, {-inf, -most, -inf}, {nan, nan, nan},
	} {
		if got := narrow.Next(c.f, true); !same(got, c.above) {
			t.Errorf("above %x: %x, want %x", c.f, got, c.above)
		}
		if got := narrow.Next(c.f, false); !same(got, c.below) {
			t.Errorf("below %x: %x, want %x", c.f, got, c.below)
		}
	}
	for _, u := range nans {
		f := math.Float32frombits(u)
		if a, b := narrow.Next(f, true), narrow.Next(f, false); a == a || b == b {
			t.Errorf("next to the NaN %08X: %x, %x", u, a, b)
		}
	}
}

// P4.3: the place is one more, or one less, wherever a narrow float stands, and no narrow float lies between.
func TestNextPlaces(t *testing.T) {
	for _, u := range someBits() {
		f := math.Float32frombits(u)
		if f != f {
			continue
		}
		p := placeOf(f)
		if got, want := narrow.Next(f, true), at(min(p+1, last)); !same(got, want) {
			t.Fatalf("above %x: %x, want %x", f, got, want)
		}
		if got, want := narrow.Next(f, false), at(max(p-1, -last)); !same(got, want) {
			t.Fatalf("below %x: %x, want %x", f, got, want)
		}
	}
}

func all(f float32) [4]float32 { return [4]float32{f, f, f, f} }

// P4.2: example 1, and the edges, by Nearest, Down, Up, Zero.
func TestToEdges(t *testing.T) {
	tenth, below := float32(13421773*0x1p-27), float32(13421772*0x1p-27)
	for _, c := range []struct {
		x    float64
		want [4]float32
	}{
		{0, all(0)}, {wide0, all(minus0)}, {math.Inf(1), all(inf)}, {math.Inf(-1), all(-inf)}, {math.NaN(), all(nan)}, {math.Float64frombits(0xFFF0000000000001), all(nan)},
		{1, all(1)}, {-1.5, all(-1.5)}, {least, all(least)}, {-least, all(-least)}, {normal - least, all(normal - least)}, {-most, all(-most)}, {most, all(most)},
		{0.1, [4]float32{tenth, below, tenth, below}},
		{-0.1, [4]float32{-tenth, -tenth, -below, -below}},
		{0x1p-150, [4]float32{0, 0, least, 0}},
		{-0x1p-150, [4]float32{minus0, -least, minus0, minus0}},
		{up(0x1p-150), [4]float32{least, 0, least, 0}},
		{-up(0x1p-150), [4]float32{-least, -least, minus0, minus0}},
		{0x1.8p-150, [4]float32{least, 0, least, 0}},
		{-0x1.8p-150, [4]float32{-least, -least, minus0, minus0}},
		{3 * 0x1p-150, [4]float32{0x1p-148, least, 0x1p-148, least}},
		{-3 * 0x1p-150, [4]float32{-0x1p-148, -0x1p-148, -least, -least}},
		{0x1p-1074, [4]float32{0, 0, least, 0}},
		{-0x1p-1074, [4]float32{minus0, -least, minus0, minus0}},
		{normal - 0x1p-150, [4]float32{normal, normal - least, normal, normal - least}},
		{0x1p-150 - normal, [4]float32{-normal, -normal, least - normal, least - normal}},
		{1 + 0x1p-24, [4]float32{1, 1, 1 + 0x1p-23, 1}},
		{1 + 3*0x1p-24, [4]float32{1 + 0x1p-22, 1 + 0x1p-23, 1 + 0x1p-22, 1 + 0x1p-23}},
		{1 + 0x1p-52, [4]float32{1, 1, 1 + 0x1p-23, 1}},
		{1 - 0x1p-53, [4]float32{1, 1 - 0x1p-24, 1, 1 - 0x1p-24}},
		{-1 - 0x1p-24, [4]float32{-1, -1 - 0x1p-23, -1, -1}},
		{up(most), [4]float32{most, most, inf, most}},
		{down(tooBig), [4]float32{most, most, inf, most}},
		{tooBig, [4]float32{inf, most, inf, most}},
		{-down(tooBig), [4]float32{-most, -inf, -most, -most}},
		{-tooBig, [4]float32{-inf, -inf, -most, -most}},
		{0x1p128, [4]float32{inf, most, inf, most}},
		{-0x1p128, [4]float32{-inf, -inf, -most, -most}},
		{1e300, [4]float32{inf, most, inf, most}},
		{-1e300, [4]float32{-inf, -inf, -most, -most}},
		{math.MaxFloat64, [4]float32{inf, most, inf, most}},
		{-math.MaxFloat64, [4]float32{-inf, -inf, -most, -most}},
	} {
		for i, m := range modes {
			if got := narrow.To(c.x, m); !same(got, c.want[i]) {
				t.Errorf("To(%x, %d): %x, want %x", c.x, m, got, c.want[i])
			}
		}
		for _, m := range others {
			if got := narrow.To(c.x, m); !same(got, c.want[0]) {
				t.Errorf("To(%x, %d): %x, want %x as by Nearest", c.x, m, got, c.want[0])
			}
		}
	}
}

// P4.2, R4: what is too great is an infinity, or the greatest narrow float, by the way of rounding alone.
func TestToTooGreat(t *testing.T) {
	for x := float64(tooBig); x < math.Inf(1); x *= 1.75 {
		for i, want := range [4]float32{inf, most, inf, most} {
			if got := narrow.To(x, modes[i]); !same(got, want) {
				t.Errorf("To(%x, %d): %x, want %x", x, modes[i], got, want)
			}
		}
		for i, want := range [4]float32{-inf, -inf, -most, -most} {
			if got := narrow.To(-x, modes[i]); !same(got, want) {
				t.Errorf("To(%x, %d): %x, want %x", -x, modes[i], got, want)
			}
		}
		if narrow.Fits(x) || narrow.Fits(-x) {
			t.Errorf("%x fits", x)
		}
	}
}

// R4: the language leaves open what a conversion to float32 tells of a number that is too great, so there is one alone, which none comes to.
func TestOneConversion(t *testing.T) {
	file, err := parser.ParseFile(token.NewFileSet(), "narrow.go", nil, 0)
	if err != nil {
		t.Fatal(err)
	}
	in := map[string]int{}
	for _, d := range file.Decls {
		f, ok := d.(*ast.FuncDecl)
		if !ok {
			continue
		}
		ast.Inspect(f, func(n ast.Node) bool {
			if call, ok := n.(*ast.CallExpr); ok {
				if name, ok := call.Fun.(*ast.Ident); ok && name.Name == "float32" {
					in[f.Name.Name]++
				}
			}
			return true
		})
	}
	if len(in) != 1 || in["nearest"] != 1 {
		t.Errorf("conversions to float32, by function: %v", in)
	}
}

// exactBits is enough for every sum and product that is reckoned here.
const exactBits = 2400

func exact(x float64) *big.Float { return new(big.Float).SetPrec(exactBits).SetFloat64(x) }
func plus(a, b *big.Float) *big.Float {
	return new(big.Float).SetPrec(exactBits).Add(a, b)
}
func times(a, b *big.Float) *big.Float {
	return new(big.Float).SetPrec(exactBits).Mul(a, b)
}

// against tells whether an exact number is below, at or above x.
type against func(x *big.Float) int

func againstSum(a, b, c float32) against {
	v := plus(times(exact(float64(a)), exact(float64(b))), exact(float64(c)))
	return func(x *big.Float) int { return v.Cmp(x) }
}

func againstQuotient(a, b float32) against {
	num, den := exact(float64(a)), exact(float64(b))
	return func(x *big.Float) int { return num.Cmp(times(x, den)) * den.Sign() }
}

func againstRoot(a float32) against {
	square := exact(float64(a))
	return func(x *big.Float) int {
		if x.Sign() < 0 {
			return 1
		}
		return square.Cmp(times(x, x))
	}
}

// rounded is what the chapter says of an exact number other than 0, found by halving all narrow floats, not by any rounding.
func rounded(c against, m api.Mode) float32 {
	low, high := int64(-last), int64(last)
	neg := c(exact(0)) < 0
	for high-low > 1 {
		mid := (low + high) >> 1
		switch f := at(mid); c(exact(float64(f))) {
		case 0:
			return f
		case 1:
			low = mid
		default:
			high = mid
		}
	}
	below, above := at(low), at(high)
	if neg && above == 0 {
		above = minus0
	}
	switch {
	case m == api.Down || m == api.Zero && !neg:
		return below
	case m == api.Up || m == api.Zero:
		return above
	}
	sign := c(times(plus(end(low), end(high)), exact(0.5)))
	if sign < 0 || sign == 0 && low%2 == 0 {
		return below
	}
	return above
}

// end is the number at a place; an infinity counts as the power of two that would stand there.
func end(place int64) *big.Float {
	switch place {
	case last:
		return exact(0x1p128)
	case -last:
		return exact(-0x1p128)
	}
	return exact(float64(at(place)))
}

// P4.2: To against exact numbers, at and beside narrow floats and the middles between them.
func TestToExactly(t *testing.T) {
	for _, x := range wides(1500) {
		if x == 0 || math.IsNaN(x) || math.IsInf(x, 0) {
			continue
		}
		v := exact(x)
		for _, m := range modes {
			if got, want := narrow.To(x, m), rounded(func(y *big.Float) int { return v.Cmp(y) }, m); !same(got, want) {
				t.Fatalf("To(%x, %d): %x, want %x", x, m, got, want)
			}
		}
		if got, want := narrow.To(x, 77), narrow.To(x, api.Nearest); !same(got, want) {
			t.Fatalf("To(%x, 77): %x, want %x", x, got, want)
		}
	}
}

// P4.2: what fits is just the narrow floats, NaN too.
func TestFits(t *testing.T) {
	for _, x := range []float64{0, wide0, 0.5, -1, least, -3 * least, normal - least, most, -most, math.Inf(1), math.Inf(-1), math.NaN(), math.Float64frombits(0xFFF0000000000001), 1<<24 + 2, 0x1p127} {
		if !narrow.Fits(x) {
			t.Errorf("%x does not fit", x)
		}
	}
	for _, x := range []float64{0.1, 0x1p-150, -0x1p-150, 3 * 0x1p-150, 0x1p-1074, -0x1p-1074, normal + 0x1p-150, 1<<24 + 1, 1 + 0x1p-24, up(most), tooBig, 0x1p128, -0x1p128, -1e300, math.MaxFloat64} {
		if narrow.Fits(x) {
			t.Errorf("%x fits", x)
		}
	}
	for _, x := range wides(3000) {
		p, finite := bits.Split(x)
		// A finite float is a narrow one, if its odd number has 24 bits at most, and its bits stand from 2^-149 to 2^127.
		want := !finite || p.Frac < 1<<24 && p.Exp >= -149 && math.Abs(x) < 0x1p128
		if got := narrow.Fits(x); got != want {
			t.Fatalf("Fits(%x): %v", x, got)
		}
	}
}

// call is one of the five, at given narrow floats.
type call struct {
	what string
	got  float32
	// wide is the same, done with Back of the arguments in floats.
	wide float64
}

// calls is the four of two narrow floats, and the root of the first.
func calls(a, b float32) []call {
	x, y := narrow.Back(a), narrow.Back(b)
	return []call{
		{"Add", narrow.Add(a, b), round.Add(x, y, api.Nearest)},
		{"Sub", narrow.Sub(a, b), round.Sub(x, y, api.Nearest)},
		{"Mul", narrow.Mul(a, b), round.Mul(x, y, api.Nearest)},
		{"Div", narrow.Div(a, b), round.Div(x, y, api.Nearest)},
		{"Sqrt", narrow.Sqrt(a), round.Sqrt(x, api.Nearest)},
	}
}

// P4.5: example 3, and noughts, infinities, NaN, what is too great or too little.
func TestReckonEdges(t *testing.T) {
	for _, c := range []struct {
		what      string
		got, want float32
	}{
		{"2^24 + 1", narrow.Add(1<<24, 1), 1 << 24},
		{"2^24 + 2 + 1", narrow.Add(1<<24+2, 1), 1<<24 + 4},
		{"1 - 1", narrow.Sub(1, 1), 0},
		{"2^-100 squared", narrow.Mul(0x1p-100, 0x1p-100), 0},
		{"-2^-75 2^-75", narrow.Mul(-0x1p-75, 0x1p-75), minus0},
		{"1 over 3", narrow.Div(1, 3), 11184811 * 0x1p-25},
		{"1 over -0", narrow.Div(1, minus0), -inf},
		{"root of 2", narrow.Sqrt(2), 11863283 * 0x1p-23},

		{"0 + 0", narrow.Add(0, 0), 0},
		{"0 + -0", narrow.Add(0, minus0), 0},
		{"-0 + 0", narrow.Add(minus0, 0), 0},
		{"-0 + -0", narrow.Add(minus0, minus0), minus0},
		{"-1 + 1", narrow.Add(-1, 1), 0},
		{"0 - 0", narrow.Sub(0, 0), 0},
		{"0 - -0", narrow.Sub(0, minus0), 0},
		{"-0 - 0", narrow.Sub(minus0, 0), minus0},
		{"-0 - -0", narrow.Sub(minus0, minus0), 0},
		{"-M - -M", narrow.Sub(-most, -most), 0},
		{"0 0", narrow.Mul(0, 0), 0},
		{"0 -3", narrow.Mul(0, -3), minus0},
		{"-0 -3", narrow.Mul(minus0, -3), 0},
		{"0 over -3", narrow.Div(0, -3), minus0},
		{"-0 over -3", narrow.Div(minus0, -3), 0},
		{"root of 0", narrow.Sqrt(0), 0},
		{"root of -0", narrow.Sqrt(minus0), minus0},

		{"Inf + Inf", narrow.Add(inf, inf), inf},
		{"Inf + -Inf", narrow.Add(inf, -inf), nan},
		{"Inf - Inf", narrow.Sub(inf, inf), nan},
		{"-Inf - Inf", narrow.Sub(-inf, inf), -inf},
		{"M - Inf", narrow.Sub(most, inf), -inf},
		{"-Inf e", narrow.Mul(-inf, least), -inf},
		{"Inf 0", narrow.Mul(inf, 0), nan},
		{"-0 Inf", narrow.Mul(minus0, inf), nan},
		{"0 over 0", narrow.Div(0, 0), nan},
		{"-0 over 0", narrow.Div(minus0, 0), nan},
		{"Inf over -Inf", narrow.Div(inf, -inf), nan},
		{"Inf over -0", narrow.Div(inf, minus0), -inf},
		{"-e over -0", narrow.Div(-least, minus0), inf},
		{"M over -Inf", narrow.Div(most, -inf), minus0},
		{"-e over -Inf", narrow.Div(-least, -inf), 0},
		{"root of Inf", narrow.Sqrt(inf), inf},
		{"root of -Inf", narrow.Sqrt(-inf), nan},
		{"root of -e", narrow.Sqrt(-least), nan},
		{"root of NaN", narrow.Sqrt(nan), nan},

		{"M + just under a half", narrow.Add(most, 0x1.fffffep102), most},
		{"M + a half", narrow.Add(most, 0x1p103), inf},
		{"-M - a half", narrow.Sub(-most, 0x1p103), -inf},
		{"M M", narrow.Mul(most, -most), -inf},
		{"M over e", narrow.Div(-most, least), -inf},
		{"e over M", narrow.Div(-least, most), minus0},
		{"e + e", narrow.Add(least, least), 2 * least},
		{"2^-126 - e", narrow.Sub(normal, least), normal - least},
		{"e / 2", narrow.Mul(least, 0.5), 0},
		{"3e / 2", narrow.Mul(3*least, 0.5), 2 * least},
		{"5e over -2", narrow.Div(5*least, -2), -2 * least},
		{"e over 3/2", narrow.Div(least, 1.5), least},
		{"2^-75, a last bit more, squared", narrow.Mul(0x1.000002p-75, 0x1p-75), least},
		{"root of e", narrow.Sqrt(least), 0x1.6a09e6p-75},
		{"root of 2e", narrow.Sqrt(2 * least), 0x1p-74},
		{"root of M", narrow.Sqrt(most), 0x1.fffffep63},
	} {
		if !same(c.got, c.want) {
			t.Errorf("%s: %x, want %x", c.what, c.got, c.want)
		}
	}
	for _, f := range pool() {
		for _, c := range append(calls(nan, f), calls(f, nan)[:4]...) {
			if c.got == c.got {
				t.Errorf("%s of NaN and %x: %x", c.what, f, c.got)
			}
		}
	}
}

// agree checks an answer against the exact number; where that is 0 other tests tell what it must be.
func agree(t *testing.T, what string, got float32, c against, a, b float32) {
	t.Helper()
	if c(exact(0)) == 0 {
		return
	}
	if want := rounded(c, api.Nearest); !same(got, want) {
		t.Fatalf("%s of %x and %x: %x, want %x", what, a, b, got, want)
	}
}

// agreePair checks the five at two narrow floats.
func agreePair(t *testing.T, a, b float32) {
	t.Helper()
	if !finite(a) || !finite(b) {
		return
	}
	agree(t, "Add", narrow.Add(a, b), againstSum(a, 1, b), a, b)
	agree(t, "Sub", narrow.Sub(a, b), againstSum(a, 1, -b), a, b)
	agree(t, "Mul", narrow.Mul(a, b), againstSum(a, b, 0), a, b)
	if b != 0 {
		agree(t, "Div", narrow.Div(a, b), againstQuotient(a, b), a, b)
	}
	if a > 0 {
		agree(t, "Sqrt", narrow.Sqrt(a), againstRoot(a), a, a)
	}
}

func finite(f float32) bool { return f-f == 0 }

// P4.5: against exact numbers, at all pairs of edges and at narrow floats of all sizes.
func TestReckonExactly(t *testing.T) {
	for _, a := range pool() {
		for _, b := range pool() {
			agreePair(t, a, b)
		}
	}
	r := rand.New(rand.NewSource(2))
	for range 10000 {
		agreePair(t, anyNarrow(r), anyNarrow(r))
	}
}

// inverse is the number below 2^n by which odd has the product 1, up to whole multiples of 2^n.
func inverse(odd uint64, n int) uint64 {
	x := odd
	for range 6 { // each step doubles how many of the lowest bits are right
		x *= 2 - odd*x
	}
	return x & (1<<n - 1)
}

// beside is two whole numbers of at most 24 bits whose quotient, times 2^n, is odd but for one part in the divisor: no quotient of narrow floats lies closer to it.
func beside(odd uint64, n int) (a, b float32) {
	div := inverse(odd, n)
	product := odd*div - 1
	if div >= 1<<(n-1) {
		div = 1<<n - div
		product = odd*div + 1
	}
	return float32(product >> n), float32(div)
}

// P4.5: quotients and roots a hair beside the middle of two narrow floats, subnormal ones too, where rounding twice might go astray.
func TestHairs(t *testing.T) {
	r := rand.New(rand.NewSource(3))
	for range 3000 {
		a, b := beside(1<<24|uint64(r.Intn(1<<24))|1, 25)
		agreePair(t, a, b)
		agreePair(t, a, -b)
		agreePair(t, a*0x1p-149, b) // the least quotients, of whole numbers of last bits
		size := 2 + r.Intn(23)
		a, b = beside(1<<(size-1)|uint64(r.Intn(1<<(size-1)))|1, 24)
		agreePair(t, a*0x1p-63, b*0x1p63) // the quotient stands beside an odd number of halves of the least narrow float
		agreePair(t, -a*0x1p-63, b*0x1p63)
		middle := float64(r.Intn(1<<24)|1<<23) + 0.5
		for _, f := range []float32{narrow.To(middle*middle, api.Down), narrow.To(middle*middle, api.Up)} {
			agreePair(t, f, b)
			agreePair(t, f*0x1p-140, b)
		}
	}
}

// P4.5: quotients that are just an odd number of halves of the least narrow float: the one whose last bit is 0 is told.
func TestTies(t *testing.T) {
	for b := float32(1); b < 1<<12; b += 2 {
		for _, odd := range []float32{1, 3, 5, 7, 1023, 1025, 4095} {
			agreePair(t, odd*b*0x1p-100, b*0x1p50)
			agreePair(t, odd*b*0x1p-100, -b*0x1p50)
		}
	}
}

// P4.5: no two steps are joined, wherever a call is put in another's place.
func TestNotJoined(t *testing.T) {
	a, b := float32(1+0x1p-23), float32(1-0x1p-23)
	if got := narrow.Sub(narrow.Mul(a, b), 1); got != 0 {
		t.Errorf("a product less 1: %x", got)
	}
	if got := narrow.Add(-1, narrow.Mul(a, b)); got != 0 {
		t.Errorf("-1 and a product: %x", got)
	}
	r := rand.New(rand.NewSource(4))
	for range 2000 {
		a, b, c := anyNarrow(r), anyNarrow(r), anyNarrow(r)
		p := math.Float32bits(narrow.Mul(a, b))
		if got, want := narrow.Add(narrow.Mul(a, b), c), narrow.Add(math.Float32frombits(p), c); !same(got, want) {
			t.Fatalf("%x times %x, and %x: %x, want %x", a, b, c, got, want)
		}
	}
}

// P4.6: each of the five is what floats tell, rounded once more.
func TestRoundingTwice(t *testing.T) {
	list := pool()
	r := rand.New(rand.NewSource(5))
	for len(list) < 900 {
		list = append(list, anyNarrow(r))
	}
	for _, a := range list {
		for _, b := range list {
			for _, c := range calls(a, b) {
				if want := narrow.To(c.wide, api.Nearest); !same(c.got, want) {
					t.Fatalf("%s of %x and %x: %x, in floats %x", c.what, a, b, c.got, want)
				}
			}
		}
	}
}

// P4.6: To of Back is the narrow float again, by every mode.
func TestToOfBack(t *testing.T) {
	for _, u := range someBits() {
		f := math.Float32frombits(u)
		for _, m := range append(modes, others...) {
			if got := narrow.To(narrow.Back(f), m); !same(got, f) {
				t.Fatalf("To of Back of %x by %d: %x", f, m, got)
			}
		}
	}
}

// P4.6: both sides hold x between them, next to each other, and Nearest and Zero are among them.
func TestSides(t *testing.T) {
	for _, x := range wides(5000) {
		near, low, high, zero := narrow.To(x, api.Nearest), narrow.To(x, api.Down), narrow.To(x, api.Up), narrow.To(x, api.Zero)
		if x != x {
			continue
		}
		if narrow.Back(low) > x || narrow.Back(high) < x {
			t.Fatalf("%x does not lie from %x to %x", x, low, high)
		}
		if n := placeOf(high) - placeOf(low); n != 0 && n != 1 || n == 0 && !same(low, high) {
			t.Fatalf("Down and Up of %x: %x and %x", x, low, high)
		}
		if !same(near, low) && !same(near, high) {
			t.Fatalf("Nearest of %x: %x, neither %x nor %x", x, near, low, high)
		}
		inner := low
		if math.Signbit(x) {
			inner = high
		}
		if !same(zero, inner) {
			t.Fatalf("Zero of %x: %x, want %x", x, zero, inner)
		}
		for _, f := range []float32{near, low, high, zero} {
			if math.Signbit(narrow.Back(f)) != math.Signbit(x) {
				t.Fatalf("%x is told of %x, with another sign", f, x)
			}
		}
	}
}

// P4.6: what is not above stays so.
func TestRises(t *testing.T) {
	list := wides(60)
	for _, x := range list {
		for _, y := range list {
			if !(x <= y) {
				continue
			}
			for _, m := range modes {
				if f, g := narrow.To(x, m), narrow.To(y, m); f > g {
					t.Fatalf("by %d %x is told of %x, %x of %x", m, f, x, g, y)
				}
			}
		}
	}
}
