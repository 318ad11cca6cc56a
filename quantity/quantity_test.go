package quantity_test

import (
	"math"
	"math/big"
	"math/rand"
	"regexp"
	"slices"
	"strconv"
	"strings"
	"testing"

	"girder/api"
	"girder/quantity"
	"girder/ratio"
)

const (
	least  = 0x1p-1074
	normal = 0x1p-1022
	most   = math.MaxFloat64
)

var (
	minus0 = math.Copysign(0, -1)
	inf    = math.Inf(1)
	modes  = []api.Mode{api.Nearest, api.Down, api.Up, api.Zero, -1, 4, 77, 127, -128}
)

func same(a, b float64) bool { return math.Float64bits(a) == math.Float64bits(b) }

func finite(x float64) bool { return !math.IsNaN(x) && !math.IsInf(x, 0) }

func notFinite() []float64 {
	return []float64{math.NaN(), math.Float64frombits(0xfff0000000000001), inf, -inf}
}

// numberText is the chapter's words, in another tongue.
var numberText = regexp.MustCompile(`^-?([0-9]+\.?[0-9]*|\.[0-9]+)([eE][+-]?[0-9]{1,3})?$`)

// begins tells whether s is the beginning of a number's text: what lacks of one is a digit, if anything.
func begins(s string) bool { return numberText.MatchString(s) || numberText.MatchString(s+"0") }

// faultAt is the place of the first byte of s that can't stand; if all can, the length of s.
func faultAt(s string) int {
	for i := range len(s) {
		if !begins(s[:i+1]) {
			return i
		}
	}
	return len(s)
}

// power is 10 to the power n.
func power(n int) *big.Rat {
	p := new(big.Rat).SetInt(new(big.Int).Exp(big.NewInt(10), big.NewInt(int64(max(n, -n))), nil))
	if n < 0 {
		p.Inv(p)
	}
	return p
}

// says is what a number's text says, reckoned digit by digit.
func says(s string) *big.Rat {
	body, by, _ := strings.Cut(strings.ToLower(s), "e")
	body, neg := strings.CutPrefix(body, "-")
	digits := strings.ReplaceAll(body, ".", "")
	k, _ := strconv.Atoi(by)
	if i := strings.IndexByte(body, '.'); i >= 0 {
		k -= len(body) - 1 - i
	}
	v := new(big.Rat)
	for _, d := range digits {
		v.Mul(v, power(1)).Add(v, big.NewRat(int64(d-'0'), 1))
	}
	if neg {
		v.Neg(v)
	}
	return v.Mul(v, power(k))
}

// exact is a finite float as an exact number.
func exact(x float64) *big.Rat { return new(big.Rat).SetFloat64(x) }

// roundTo is v, rounded by m, by math/big alone; of 0 +0.
func roundTo(v *big.Rat, m api.Mode) float64 {
	near, _ := v.Float64()
	if v.Sign() < 0 && near == 0 {
		near = minus0
	}
	switch {
	case m == api.Zero && v.Sign() > 0:
		m = api.Down
	case m == api.Zero:
		m = api.Up
	}
	switch {
	case m == api.Down && above(near, v):
		return math.Nextafter(near, -inf)
	case m == api.Up && above(-near, new(big.Rat).Neg(v)):
		up := math.Nextafter(near, inf)
		if up == 0 {
			up = minus0 // of a number below 0
		}
		return up
	}
	return near
}

// above tells whether x, a float or an infinity, is above v.
func above(x float64, v *big.Rat) bool {
	if math.IsInf(x, 0) {
		return x > 0
	}
	return exact(x).Cmp(v) > 0
}

// limbsOf is the limbs of v.
func limbsOf(v *big.Int) []uint64 {
	var out []uint64
	for rest := new(big.Int).Abs(v); rest.Sign() != 0; rest.Rsh(rest, 64) {
		out = append(out, new(big.Int).And(rest, new(big.Int).SetUint64(math.MaxUint64)).Uint64())
	}
	return out
}

func isRatio(r api.Ratio, v *big.Rat) bool {
	return r.Neg == (v.Sign() < 0) && slices.Equal(r.Num, limbsOf(v.Num())) && slices.Equal(r.Den, limbsOf(v.Denom()))
}

func isNone(r api.Ratio) bool { return !r.Neg && len(r.Num) == 0 && len(r.Den) == 0 }

// holdText holds all that is read of s against the words of the chapter.
func holdText(t *testing.T, s string) {
	t.Helper()
	v := holdExact(t, s)
	_, e, at := quantity.Exact(s)
	for _, m := range modes {
		x, f, k := quantity.Parse(s, m)
		want, wantErr := 0.0, e
		if e == api.OK {
			want, wantErr = float(s, v, m)
		}
		if f != wantErr || k != at || !same(x, want) {
			t.Errorf("Parse(%q, %d) = %v %v %v, not %v %v %v", s, m, x, f, k, want, wantErr, at)
		}
	}
}

// holdExact holds Exact of s against the words of the chapter, and tells what s says, if anything.
func holdExact(t *testing.T, s string) *big.Rat {
	t.Helper()
	r, e, at := quantity.Exact(s)
	wantErr, wantAt := api.OK, 0
	switch {
	case len(s) > api.MaxNumber:
		wantErr = api.ErrLong
	case !numberText.MatchString(s):
		wantErr, wantAt = api.ErrQuantity, faultAt(s)
	}
	if e != wantErr || at != wantAt || e != api.OK && !isNone(r) {
		t.Errorf("Exact(%q) = %v %v %v, not %v at %v", s, r, e, at, wantErr, wantAt)
	}
	if wantErr != api.OK {
		return nil
	}
	v := says(s)
	if !ratio.Right(r) || !isRatio(r, v) {
		t.Errorf("Exact(%q) = %v, not %v", s, r, v)
	}
	return v
}

// float is what Parse has to tell of s, which says v.
func float(s string, v *big.Rat, m api.Mode) (float64, api.Errno) {
	x := roundTo(v, m)
	switch {
	case !finite(x):
		return 0, api.ErrOver
	case v.Sign() == 0 && s[0] == '-':
		return minus0, api.OK
	}
	return x, api.OK
}

// numberTexts is texts of all forms that the chapter names, with 64 bytes and a few more too.
func numberTexts() []string {
	var out []string
	for _, body := range []string{"0", "00", "0.", ".0", "0.0", "5", "5.", ".5", "0.5", "05", "5.50", "0050.0500", "1", "10", "100.001", "9.99", "2.5", "3.25", "123456789", "9007199254740993", "18446744073709551616", "340282366920938463463374607431768211456"} {
		for _, by := range []string{"", "e0", "E0", "e+0", "e-0", "e1", "E+1", "e-1", "E-01", "e001", "e-001", "e-15", "e22", "e23", "e-300", "e300", "e-323", "e-324", "e-325", "e-344", "e308", "e309", "e-400", "e400", "e999", "E-999", "e+999"} {
			out = append(out, body+by, "-"+body+by)
		}
	}
	for n := 60; n <= 66; n++ {
		for _, d := range []string{"0", "1", "5", "9"} {
			run := strings.Repeat(d, n-5)
			out = append(out, run+run[:5], run[:n-6]+"e+999", run[:n-6]+"E-999", "."+run[:n-7]+"e-999", "-"+run[:n-7]+".e999", "-."+run[:n-7]+"e999", run[:n-8]+".000e9"+"00"[:1])
		}
	}
	return out
}

// P8.1, P8.2: numbers' texts of each form.
func TestNumberTexts(t *testing.T) {
	for _, s := range numberTexts() {
		holdText(t, s)
	}
}

// P8.1, P8.2: every text of so few bytes, of what may stand in a number's text and of what may not: points, signs, powers, beginnings, faults.
func TestEveryShortText(t *testing.T) {
	for _, c := range []struct {
		bytes string
		most  int
	}{{"-+.eE07x", 5}, {"-.e1", 7}, {"+e12", 8}} {
		every := []string{""}
		for range c.most {
			for _, s := range every {
				holdExact(t, s)
			}
			every = longer(every, c.bytes)
		}
	}
	for _, s := range longer(longer(longer(longer([]string{""}, "-+.eE07"), "-+.eE07"), "-.eE07"), "-+.07") {
		holdText(t, s)
	}
}

// longer is each of these with each of the bytes behind it.
func longer(these []string, bytes string) []string {
	var out []string
	for _, s := range these {
		for i := range len(bytes) {
			out = append(out, s+bytes[i:i+1])
		}
	}
	return out
}

// P8.1: every byte, at each place of a number's text, and behind it.
func TestEveryByte(t *testing.T) {
	for _, s := range []string{"", "-", "1", "-1", "1.", ".", ".5", "1.5", "1e", "1e+", "1e-", "1e1", "1e12", "1e123", "-0.5E-300"} {
		for b := range 256 {
			holdExact(t, s+string([]byte{byte(b)}))
			holdExact(t, s+string([]byte{byte(b)})+"1")
		}
		for _, r := range []string{"٣", "−1", "é", "\u2028", "\xff\xfe"} {
			holdExact(t, s+r)
		}
	}
}

// P8.1, P8.2: ErrLong counts ahead of ErrQuantity; 64 bytes are not too long.
func TestLongTexts(t *testing.T) {
	for _, unit := range []string{"0", "9", "x", ".", "-", "e", " ", "\x00", "\xff"} {
		for _, n := range []int{63, 64, 65, 66, 1000, 70000} {
			holdText(t, strings.Repeat(unit, n))
		}
	}
	for _, end := range []string{"e", "e+", "x", ".", "1e9", "1e99", "e999", "-"} {
		for n := 62; n <= 66; n++ {
			holdText(t, strings.Repeat("0", n-len(end))+end)
		}
	}
}

// P8.1: example 1's Exact; answers share no memory.
func TestExact(t *testing.T) {
	for s, want := range map[string]*big.Rat{"-2.50": big.NewRat(-5, 2), "1e-999": power(-999), "0": {}, "-0": {}, "-0.0e-999": {}, "0.75": big.NewRat(3, 4), "1e3": big.NewRat(1000, 1), "-1e999": new(big.Rat).Neg(power(999)), "60e-2": big.NewRat(3, 5)} {
		r, e, at := quantity.Exact(s)
		if e != api.OK || at != 0 || !isRatio(r, want) {
			t.Error(s, r, e, at)
		}
	}
	a, _, _ := quantity.Exact("1.5")
	b, _, _ := quantity.Exact("1.5")
	for _, l := range [][]uint64{a.Num, a.Den} {
		l = l[:cap(l)]
		for i := range l {
			l[i] = 77
		}
	}
	c, _, _ := quantity.Exact("1.5")
	if !isRatio(b, big.NewRat(3, 2)) || !isRatio(c, big.NewRat(3, 2)) || a.Num[0] != 77 || a.Den[0] != 77 {
		t.Error(a, b, c)
	}
}

// P8.2: example 1, and what lies about the least float, the greatest one, the least normal one and ties.
func TestParse(t *testing.T) {
	none := math.NaN() // stands for ErrOver
	for _, c := range []struct {
		s                     string
		nearest, down, up, to float64
	}{
		{"0.1", 0.1, math.Nextafter(0.1, 0), 0.1, math.Nextafter(0.1, 0)},
		{"-0.1", -0.1, -0.1, -math.Nextafter(0.1, 0), -math.Nextafter(0.1, 0)},
		{"0", 0, 0, 0, 0},
		{"-0", minus0, minus0, minus0, minus0},
		{"0e-5", 0, 0, 0, 0},
		{"-0e-5", minus0, minus0, minus0, minus0},
		{"-.0e999", minus0, minus0, minus0, minus0},
		{".5e1", 5, 5, 5, 5},
		{"5.", 5, 5, 5, 5},
		{"-005.e+00", -5, -5, -5, -5},
		{"1e-400", 0, 0, least, 0},
		{"-1e-400", minus0, -least, minus0, minus0},
		{"1e400", none, most, none, most},
		{"-1e400", none, none, -most, -most},
		{"2.4703282292062327e-324", 0, 0, least, 0},     // just below half the least float
		{"2.4703282292062328e-324", least, 0, least, 0}, // just above it
		{"-2.4703282292062327e-324", minus0, -least, minus0, minus0},
		{"-2.4703282292062328e-324", -least, -least, minus0, minus0},
		{"2.2250738585072014e-308", normal, normal, math.Nextafter(normal, 1), normal},
		{"2.2250738585072013e-308", normal, normal - least, normal, normal - least},
		{"1.7976931348623157e308", most, most - 0x1p971, most, most - 0x1p971},
		{"1.7976931348623158e308", most, most, none, most},
		{"1.797693134862315807e308", most, most, none, most},
		{"1.797693134862315808e308", none, most, none, most},
		{"-1.797693134862315807e308", -most, none, -most, -most},
		{"-1.797693134862315808e308", none, none, -most, -most},
		{"9007199254740993", 0x1p53, 0x1p53, 0x1p53 + 2, 0x1p53},                          // ties
		{"9007199254740995", 0x1p53 + 4, 0x1p53 + 2, 0x1p53 + 4, 0x1p53 + 2},              //
		{"-9007199254740993", -0x1p53, -0x1p53 - 2, -0x1p53, -0x1p53},                     //
		{"9007199254740993.0000000001", 0x1p53 + 2, 0x1p53, 0x1p53 + 2, 0x1p53},           // no ties any more
		{"9007199254740992.9999999999", 0x1p53, 0x1p53, 0x1p53 + 2, 0x1p53},               //
		{"1.00000000000000011102230246251565404236316680908203125", 1, 1, 1 + 0x1p-52, 1}, // 1 + 2^-53
		{"1.00000000000000033306690738754696212708950042724609375", 1 + 0x1p-51, 1 + 0x1p-52, 1 + 0x1p-51, 1 + 0x1p-52},
	} {
		for m, want := range map[api.Mode]float64{api.Nearest: c.nearest, api.Down: c.down, api.Up: c.up, api.Zero: c.to, 4: c.nearest, -1: c.nearest} {
			wantErr := api.OK
			if math.IsNaN(want) {
				want, wantErr = 0, api.ErrOver
			}
			if x, e, at := quantity.Parse(c.s, m); e != wantErr || at != 0 || !same(x, want) {
				t.Errorf("Parse(%q, %d) = %v %v %v, not %v %v", c.s, m, x, e, at, want, wantErr)
			}
		}
	}
}

// P8.1, P8.2: example 2.
func TestParseFaults(t *testing.T) {
	for s, want := range map[string]int{"": 0, "-": 1, "+1": 0, ".": 1, "1..2": 2, "1e": 2, "1e+": 3, "1e1234": 5, ".e5": 1, "0x1": 1, "1 ": 1, "NaN": 0, "1_0": 1,
		" 1": 0, "-.": 2, "-+1": 1, "--1": 1, "1-": 1, "1+1": 1, "1.-": 2, "1.5.": 3, "e5": 0, "-e5": 1, "1ee5": 2, "1e--5": 3, "1e+-5": 3, "1e5.": 3, "1e5e": 3, "1e-1234": 6, "1e0000": 5, "Inf": 0, "-Inf": 1, "1,5": 1, "1\n": 1, "\x001": 0, "1e\xff": 2, "١": 0} {
		for _, m := range modes {
			r, e, at := quantity.Exact(s)
			x, f, k := quantity.Parse(s, m)
			if e != api.ErrQuantity || f != e || at != want || k != want || !isNone(r) || !same(x, 0) {
				t.Errorf("%q: %v %v %v, %v %v %v, not at %v", s, r, e, at, x, f, k, want)
			}
		}
	}
	if _, e, at := quantity.Parse(strings.Repeat("0", 65), api.Down); e != api.ErrLong || at != 0 {
		t.Error(e, at)
	}
	if x, e, at := quantity.Parse(strings.Repeat("0", 64), api.Down); e != api.OK || at != 0 || !same(x, 0) {
		t.Error(x, e, at)
	}
}

// P8.2: texts just about floats and about the middles between two, by every way.
func TestParseAboutFloats(t *testing.T) {
	r := rand.New(rand.NewSource(1))
	for _, x := range floats(r, 100) {
		next := math.Nextafter(x, inf)
		if !finite(next) {
			continue
		}
		middle := new(big.Float).SetPrec(60).SetFloat64(x)
		middle.Add(middle, big.NewFloat(next))
		middle.SetMantExp(middle, -1)
		for _, f := range []*big.Float{big.NewFloat(x), middle} {
			holdText(t, f.Text('e', 15+r.Intn(35)))
			if e := f.MantExp(nil); e > -100 && e < 200 {
				holdText(t, f.Text('f', 30)) // exact, if it is short enough
			}
		}
	}
}

// floats is finite floats: those of the chapter's edges, each power of two, those about powers of ten, and others, the same ones at each run.
func floats(r *rand.Rand, n int) []float64 {
	out := []float64{0, minus0, least, 2 * least, 3 * least, 5 * least, normal - least, normal, normal + least, 2 * normal, 0.1, 0.3, 1.0 / 3, 0.5, 1, 1.5, 2.5, 9.5, 95, 99.5, 9.99, 12.5, 100, 123456, 9007199254740993, 0x1p60, 1e21, 1e22, 1e23, 2e23, 8.41e21, 9.5367431640625e-7, 4.35, 2.2250738585072011e-308, 5e-320, 0x1p1023, most - 0x1p971, most}
	for k := -1074; k <= 1023; k += 1 + r.Intn(1+4000/n) {
		out = append(out, math.Ldexp(1, k))
	}
	for k := -323; k <= 308; k += 1 + r.Intn(1+1500/n) {
		x, _ := strconv.ParseFloat("1e"+strconv.Itoa(k), 64)
		out = append(out, x, math.Nextafter(x, 0), math.Nextafter(x, inf))
	}
	for range n {
		out = append(out, math.Float64frombits(r.Uint64()), math.Float64frombits(r.Uint64()>>12), float64(r.Intn(2000000))/16, r.NormFloat64(), float64(r.Uint64()))
		x, _ := strconv.ParseFloat(strconv.Itoa(r.Intn(100000))+"e"+strconv.Itoa(r.Intn(40)-20), 64)
		out = append(out, x)
	}
	out = slices.DeleteFunc(out, func(x float64) bool { return !finite(x) })
	for _, x := range out[:len(out)/2] {
		out = append(out, -x)
	}
	return out
}

// firstPower is the power of the first digit of v, which is above 0.
func firstPower(v *big.Rat) int {
	k := len(v.Num().String()) - len(v.Denom().String())
	if v.Cmp(power(k)) < 0 {
		k--
	}
	return k
}

// neighbours is the numbers of n digits next to v, which is above 0: as whole numbers, times 10 to the power low; both are the same if v is one.
func neighbours(v *big.Rat, n int) (lower, upper *big.Int, low int) {
	low = firstPower(v) - n + 1
	q := new(big.Rat).Mul(v, power(-low))
	rest := new(big.Int)
	lower, rest = new(big.Int).QuoRem(q.Num(), q.Denom(), rest)
	upper = new(big.Int).Set(lower)
	if rest.Sign() != 0 {
		upper.Add(upper, big.NewInt(1))
	}
	return lower, upper, low
}

// nearer is which one of both is nearer to v over 10 to the power low, of two as near the even one.
func nearer(v *big.Rat, lower, upper *big.Int, low int) *big.Int {
	twice := new(big.Rat).Mul(v, power(-low))
	twice.Add(twice, twice)
	c := twice.Cmp(new(big.Rat).SetInt(new(big.Int).Add(lower, upper)))
	if c > 0 || c == 0 && lower.Bit(0) == 1 {
		return upper
	}
	return lower
}

// fewest tells the digits that Print has to tell of a float above 0, and the first one's power, by trying the numbers of 1, 2 .. digits.
func fewest(x float64) (string, int) {
	v := exact(x)
	for n := 1; ; n++ {
		lower, upper, low := neighbours(v, n)
		tells := func(q *big.Int) bool {
			return same(roundTo(new(big.Rat).Mul(new(big.Rat).SetInt(q), power(low)), api.Nearest), x)
		}
		var best *big.Int
		switch {
		case tells(lower) && tells(upper):
			best = nearer(v, lower, upper, low)
		case tells(lower):
			best = lower
		case tells(upper):
			best = upper
		default:
			continue
		}
		s := best.String()
		return strings.TrimRight(s, "0"), low + len(s) - 1
	}
}

// printed is what Print has to tell of digits and the first one's power.
func printed(digits string, k int) string {
	n := len(digits)
	switch {
	case k < -4 || k > 15:
		if n > 1 {
			digits = digits[:1] + "." + digits[1:]
		}
		return digits + "e" + strconv.Itoa(k)
	case k < 0:
		return "0." + "0000"[:-k-1] + digits
	case n <= k:
		return digits + "000000000000000"[:k+1-n]
	case n == k+1:
		return digits
	}
	return digits[:k+1] + "." + digits[k+1:]
}

// P8.3: example 3; powers from -5 to 16; noughts; the least floats and the greatest one.
func TestPrint(t *testing.T) {
	for want, x := range map[string]float64{
		"0.1": 0.1, "1000000000000000": 1e15, "1e16": 1e16, "12.5": 12.5, "0.0001": 0.0001, "1e-5": 0.00001, "-5e-324": -least, "1.7976931348623157e308": most, "9007199254740992": 0x1p53, "-0": minus0, "0": 0,
		"1.25e-5": 1.25e-5, "0.000125": 1.25e-4, "0.00125": 1.25e-3, "0.0125": 1.25e-2, "0.125": 0.125, "1.25": 1.25, "125": 125, "1250": 1250, "12500": 12500,
		"12345678.9": 12345678.9, "123456789": 123456789, "1234567890": 1234567890, "1234567890123456": 1234567890123456, "1234567890123456.2": 1234567890123456.2, "1.234567890123456e16": 12345678901234560, "9999999999999998": 9999999999999998, "9.99999999999999e-5": 9.99999999999999e-5, "0.00010000000000000002": 0.00010000000000000002,
		"-0.3": -0.3, "0.30000000000000004": 0.1 + math.Nextafter(0.2, 1), "0.3333333333333333": 1.0 / 3, "-1e23": -1e23, "1.0000000000000001e23": math.Nextafter(1e23, inf), "9.999999999999997e22": math.Nextafter(1e23, 0),
		"1e-323": 2 * least, "1.5e-323": 3 * least, "2e-323": 4 * least, "2.5e-323": 5 * least, "2.2250738585072014e-308": normal, "2.225073858507201e-308": normal - least,
	} {
		if s, e := quantity.Print(x); s != want || e != api.OK {
			t.Error(x, s, e, want)
		}
	}
	for _, x := range notFinite() {
		if s, e := quantity.Print(x); s != "" || e != api.ErrNumber {
			t.Error(x, s, e)
		}
	}
}

// P8.3: every power from -9 to 20, with 1, 2 and 16 digits and more.
func TestPrintPowers(t *testing.T) {
	for k := -9; k <= 20; k++ {
		for _, digits := range []string{"1", "7", "9", "12", "95", "99", "123456789", "1234567890123456", "9999999999999998"} {
			x, _ := strconv.ParseFloat(digits+"e"+strconv.Itoa(k-len(digits)+1), 64)
			d, at := fewest(x)
			for _, neg := range []string{"", "-"} {
				y, want := x, neg+printed(d, at)
				if neg != "" {
					y = -x
				}
				if s, e := quantity.Print(y); s != want || e != api.OK {
					t.Error(y, s, e, want)
				}
			}
			if at != k || len(digits) < 16 && d != digits {
				t.Error(digits, k, d, at)
			}
		}
	}
}

// P8.3, P8.5: against the numbers of few digits tried one by one; and no text in between is shorter.
func TestPrintFewest(t *testing.T) {
	for _, x := range floats(rand.New(rand.NewSource(2)), 800) {
		want := "0"
		if x != 0 {
			want = printed(fewest(math.Abs(x)))
		}
		if math.Signbit(x) {
			want = "-" + want
		}
		if s, e := quantity.Print(x); s != want || e != api.OK {
			t.Error(x, s, e, want)
		}
	}
}

// P8.3: at every power of two, where the float below is nearer than the one above.
func TestPrintPowersOfTwo(t *testing.T) {
	for k := -1074; k <= 1023; k++ {
		x := math.Ldexp(1, k)
		for _, y := range []float64{x, math.Nextafter(x, 0), math.Nextafter(x, inf)} {
			if y == 0 {
				continue
			}
			if s, e := quantity.Print(y); s != printed(fewest(y)) || e != api.OK {
				t.Error(k, y, s, e)
			}
		}
	}
}

// P8.5: what is told is read again; the library's fewest digits are no fewer.
func TestPrintParse(t *testing.T) {
	r := rand.New(rand.NewSource(3))
	for _, x := range floats(r, 6000) {
		s, e := quantity.Print(x)
		y, f, at := quantity.Parse(s, api.Nearest)
		if e != api.OK || f != api.OK || at != 0 || !same(x, y) {
			t.Error(x, s, e, y, f)
		}
		if n := countDigits(strconv.FormatFloat(x, 'e', -1, 64)); countDigits(s) != n {
			t.Error(x, s, n)
		}
	}
}

// countDigits is how many digits a number's text has, noughts at both ends left out.
func countDigits(s string) int {
	s, _, _ = strings.Cut(s, "e")
	s = strings.ReplaceAll(strings.TrimPrefix(s, "-"), ".", "")
	return len(strings.Trim(s, "0"))
}

// inDigits is what Digits has to tell of a finite x that is not 0.
func inDigits(x float64, n int, m api.Mode) string {
	v := exact(math.Abs(x))
	lower, upper, low := neighbours(v, n)
	q := nearer(v, lower, upper, low)
	switch {
	case m == api.Zero, m == api.Down && x > 0, m == api.Up && x < 0:
		q = lower
	case m == api.Down, m == api.Up:
		q = upper
	}
	s := q.String()
	k := low + len(s) - 1
	out := s[:1]
	if n > 1 {
		out += "." + s[1:n]
	}
	if x < 0 {
		out = "-" + out
	}
	return out + "e" + strconv.Itoa(k)
}

// P8.4: example 4; carried powers; ties of both parities; noughts; the least float and the greatest one.
func TestDigits(t *testing.T) {
	for _, c := range []struct {
		x    float64
		n    int
		m    api.Mode
		want string
	}{
		{0.1, 3, api.Down, "1.00e-1"}, {0.1, 3, api.Up, "1.01e-1"}, {0.1, 3, api.Zero, "1.00e-1"}, {0.1, 17, api.Nearest, "1.0000000000000001e-1"}, {0.1, 17, api.Down, "1.0000000000000000e-1"},
		{-0.1, 3, api.Down, "-1.01e-1"}, {-0.1, 3, api.Up, "-1.00e-1"}, {-0.1, 3, api.Zero, "-1.00e-1"},
		{9.99, 2, api.Nearest, "1.0e1"}, {9.99, 2, api.Down, "9.9e0"}, {9.99, 1, api.Up, "1e1"}, {-9.99, 1, api.Down, "-1e1"}, {-9.99, 2, api.Up, "-9.9e0"}, {999.5, 3, api.Nearest, "1.00e3"}, {99.5, 2, api.Nearest, "1.0e2"}, {9.5, 1, api.Nearest, "1e1"}, {0.099999, 3, api.Nearest, "1.00e-1"},
		{2.5, 1, api.Nearest, "2e0"}, {3.5, 1, api.Nearest, "4e0"}, {-2.5, 1, api.Nearest, "-2e0"}, {-3.5, 1, api.Nearest, "-4e0"}, {-2.5, 1, api.Down, "-3e0"}, {-2.5, 1, api.Up, "-2e0"}, {-2.5, 1, api.Zero, "-2e0"}, {2.5, 1, api.Up, "3e0"}, {2.5, 1, 77, "2e0"}, {3.5, 1, -1, "4e0"}, {0.125, 2, api.Nearest, "1.2e-1"}, {0.375, 2, api.Nearest, "3.8e-1"},
		{0, 5, api.Up, "0"}, {minus0, 5, api.Up, "-0"}, {0, 1, api.Down, "0"}, {minus0, 17, api.Nearest, "-0"},
		{1, 1, api.Up, "1e0"}, {1, 2, api.Up, "1.0e0"}, {1000, 4, api.Up, "1.000e3"}, {1000, 1, api.Down, "1e3"}, {-1000, 6, api.Down, "-1.00000e3"}, {0.5, 3, api.Up, "5.00e-1"},
		{most, 2, api.Up, "1.8e308"}, {most, 1, api.Down, "1e308"}, {most, 1, api.Up, "2e308"}, {-most, 17, api.Nearest, "-1.7976931348623157e308"},
		{least, 1, api.Down, "4e-324"}, {least, 1, api.Nearest, "5e-324"}, {least, 17, api.Nearest, "4.9406564584124654e-324"}, {-least, 2, api.Down, "-5.0e-324"}, {normal - least, 17, api.Zero, "2.2250738585072008e-308"},
	} {
		if s, e := quantity.Digits(c.x, c.n, c.m); s != c.want || e != api.OK {
			t.Error(c, s, e)
		}
	}
}

// P8.4: ErrNumber counts ahead of ErrArg, and both ahead of noughts.
func TestDigitsWrong(t *testing.T) {
	counts := []int{0, -1, -17, 18, 19, 64, math.MaxInt, math.MinInt}
	for _, m := range modes {
		for _, n := range append(counts, 1, 17) {
			for _, x := range notFinite() {
				if s, e := quantity.Digits(x, n, m); s != "" || e != api.ErrNumber {
					t.Error(x, n, m, s, e)
				}
			}
		}
		for _, n := range counts {
			for _, x := range []float64{1, 0, minus0, -least, most} {
				if s, e := quantity.Digits(x, n, m); s != "" || e != api.ErrArg {
					t.Error(x, n, m, s, e)
				}
			}
		}
		for _, n := range []int{1, 17} {
			if s, e := quantity.Digits(1, n, m); len(s) != len("1.0000000000000000e0"[:n+min(n, 2)/2])+2 || e != api.OK {
				t.Error(n, m, s, e)
			}
		}
	}
}

// P8.4: against exact numbers, by every way, in 1 to 17 digits.
func TestDigitsExactly(t *testing.T) {
	r := rand.New(rand.NewSource(4))
	for _, x := range floats(r, 250) {
		if x == 0 {
			continue
		}
		for _, n := range []int{1, 2, 1 + r.Intn(17), 16, 17} {
			for _, m := range modes[:6] {
				if s, e := quantity.Digits(x, n, m); s != inDigits(x, n, m) || e != api.OK {
					t.Error(x, n, m, s, e, inDigits(x, n, m))
				}
			}
		}
	}
}

// P8.4: halves of one more digit, carried or not, are as near to two.
func TestDigitsTies(t *testing.T) {
	for n := 1; n <= 15; n++ {
		scale := math.Pow10(n - 1)
		for _, q := range []float64{1, 2, 5, 8, 9} {
			for _, x := range []float64{q*scale + 0.5, q*scale + 1.5, 10*scale - 0.5, -q*scale - 0.5, -q*scale - 1.5} {
				if math.Abs(x) >= 10*scale {
					continue
				}
				for _, m := range modes {
					if s, e := quantity.Digits(x, n, m); s != inDigits(x, n, m) || e != api.OK {
						t.Error(x, n, m, s, e, inDigits(x, n, m))
					}
				}
			}
		}
	}
}

// P8.5: to which side what Digits tells lies; 17 digits are read as x.
func TestDigitsFollows(t *testing.T) {
	r := rand.New(rand.NewSource(5))
	for _, x := range floats(r, 1500) {
		n := 1 + r.Intn(17)
		told := func(m api.Mode) *big.Rat {
			s, e := quantity.Digits(x, n, m)
			if e != api.OK || !numberText.MatchString(s) {
				t.Fatal(x, n, m, s, e)
			}
			return says(s)
		}
		down, up, zero := told(api.Down), told(api.Up), told(api.Zero)
		if down.Cmp(exact(x)) > 0 || up.Cmp(exact(x)) < 0 || zero.Abs(zero).Cmp(exact(math.Abs(x))) > 0 {
			t.Error(x, n, down, up, zero)
		}
		s, _ := quantity.Digits(x, 17, api.Nearest)
		if y, e, at := quantity.Parse(s, api.Nearest); !same(x, y) || e != api.OK || at != 0 {
			t.Error(x, s, y, e, at)
		}
	}
}

// P8.5: Parse by Down and by Up have what the text says between them, and stand next to each other, or are the same.
func TestParseFollows(t *testing.T) {
	r := rand.New(rand.NewSource(6))
	for range 6000 {
		s := strings.Repeat("-", r.Intn(2)) + strconv.FormatUint(r.Uint64()>>r.Intn(64), 10)
		if r.Intn(2) == 0 {
			s += "." + strconv.FormatUint(r.Uint64()>>r.Intn(64), 10)
		}
		if r.Intn(3) > 0 {
			s += "e" + strconv.Itoa(r.Intn(560)-290)
		}
		down, e, _ := quantity.Parse(s, api.Down)
		up, f, _ := quantity.Parse(s, api.Up)
		if e != api.OK || f != api.OK {
			t.Fatal(s, e, f)
		}
		if v := says(s); exact(down).Cmp(v) > 0 || exact(up).Cmp(v) < 0 || down != up && math.Nextafter(down, inf) != up || (down == up) != (exact(down).Cmp(v) == 0) {
			t.Error(s, down, up)
		}
	}
}

// R1, R4: at any texts and floats there is an answer, and the same one again.
func TestCalm(t *testing.T) {
	r := rand.New(rand.NewSource(7))
	for range 20000 {
		b := make([]byte, r.Intn(70))
		for i := range b {
			b[i] = "0123456789.eE+-"[r.Intn(15)]
			if r.Intn(40) == 0 {
				b[i] = byte(r.Intn(256))
			}
		}
		m := api.Mode(r.Intn(256) - 128)
		x, e, at := quantity.Parse(string(b), m)
		y, f, k := quantity.Parse(string(b), m)
		if !same(x, y) || e != f || at != k || e != api.OK && !same(x, 0) || at < 0 || at > len(b) {
			t.Errorf("%q %v %v %v %v", b, x, e, y, f)
		}
		z := math.Float64frombits(r.Uint64())
		n := r.Intn(24) - 3
		s, e := quantity.Digits(z, n, m)
		again, f := quantity.Digits(z, n, m)
		if s != again || e != f || (e == api.OK) != (s != "") {
			t.Error(z, n, m, s, e, again, f)
		}
	}
}

// DOC.md, example 4.
func TestExample(t *testing.T) {
	down, _, _ := quantity.Parse("0.1", api.Down)
	up, _, _ := quantity.Parse("0.1", api.Up)
	if math.Nextafter(down, inf) != up {
		t.Error(down, up)
	}
	if s, e := quantity.Print(0.1); s != "0.1" || e != api.OK {
		t.Error(s, e)
	}
}
