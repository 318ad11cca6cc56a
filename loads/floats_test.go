package loads_test

import (
	"math"
	"math/rand"
	"slices"
	"testing"

	"girder/api"
	"girder/loads"
)

// least is the least float above 0.
const least = 0x1p-1074

var minus = math.Copysign(0, -1)

// atB is the forces along x of the case w, all at the chapter's b: its x is the unknown 0.
func atB(numbers ...float32) []api.Load {
	var l []api.Load
	for _, x := range numbers {
		l = append(l, force("w", 1, x, 0, 0))
	}
	return l
}

// rounds fails unless what these loads come to at b along x is told by these three floats.
func rounds(t *testing.T, l []api.Load, factor, down, up, near float64) {
	t.Helper()
	c := combo(part("w", factor))
	s, e := loads.Sure(chapter(), l, c)
	n, f := loads.Near(chapter(), l, c)
	if e != api.OK || f != api.OK || len(s) != 6 || len(n) != 6 {
		t.Fatal(s, e, n, f)
	}
	if !same(s[0].Lo, down) || !same(s[0].Hi, up) || !same(n[0], near) {
		t.Errorf("%+v times %b: [%b, %b], %b, not [%b, %b], %b", l, factor, s[0].Lo, s[0].Hi, n[0], down, up, near)
	}
	for k := 1; k < 6; k++ {
		if !same(s[k].Lo, 0) || !same(s[k].Hi, 0) || !same(n[k], 0) {
			t.Error(k, s[k], n[k])
		}
	}
}

// P23.3: what is a float is told as it is; 0 always as +0.
func TestExactFloats(t *testing.T) {
	for _, x := range []float32{1, -1, 0.1, -0.3, tiny, -tiny, mostLoad, -mostLoad, 0x1.fffffep59} {
		rounds(t, atB(x), 1, float64(x), float64(x), float64(x))
		rounds(t, atB(x), -0x1p-60, -float64(x)*0x1p-60, -float64(x)*0x1p-60, -float64(x)*0x1p-60)
		rounds(t, atB(x, -x), 1, 0, 0, 0)
		rounds(t, atB(x, minusNought), -0x1p20, -float64(x)*0x1p20, -float64(x)*0x1p20, -float64(x)*0x1p20)
	}
	for _, factor := range []float64{1, -1, 0, minus, least, -mostFactor} {
		rounds(t, atB(0), factor, 0, 0, 0)
		rounds(t, atB(minusNought), factor, 0, 0, 0)
		rounds(t, atB(minusNought, minusNought), factor, 0, 0, 0)
		rounds(t, atB(1, -1), factor, 0, 0, 0)
	}
	rounds(t, atB(7), minus, 0, 0, 0)
	rounds(t, atB(-7), 0, 0, 0, 0)
}

// P23.3: what lies between two floats, halfway too, where the one whose last bit is 0 is nearest.
func TestTies(t *testing.T) {
	const whole = 0x1p53
	rounds(t, atB(whole, 1), 1, whole, whole+2, whole)
	rounds(t, atB(whole, 2, 1), 1, whole+2, whole+4, whole+4)
	rounds(t, atB(-whole, -1), 1, -whole-2, -whole, -whole)
	rounds(t, atB(-whole, -2, -1), 1, -whole-4, -whole-2, -whole-4)
	rounds(t, atB(whole, 1, 0x1p-40), 1, whole, whole+2, whole+2)
	rounds(t, atB(whole, 1, -0x1p-40), 1, whole, whole+2, whole)
	rounds(t, atB(-whole, -1, -tiny), 1, -whole-2, -whole, -whole-2)
	rounds(t, atB(whole, tiny), 1, whole, whole+2, whole)
	rounds(t, atB(whole, -tiny), 1, whole-1, whole, whole)
	rounds(t, atB(1, tiny), 1, 1, math.Nextafter(1, 2), 1)
	rounds(t, atB(-1, tiny), 1, -1, math.Nextafter(-1, 0), -1)
	rounds(t, atB(mostLoad, -tiny), 1, math.Nextafter(0x1p60, 0), 0x1p60, 0x1p60)
	// Each is rounded once: as floats in order these would tell 2^53 for the sum.
	rounds(t, atB(whole, 1, 1), 1, whole+2, whole+2, whole+2)
	// 16 / 12 is no float, and no tie.
	third := 4. / 3
	p := lone(4, 0, beam(0, 1, false, false))
	n, e := loads.Near(p, []api.Load{uniform("w", 0, 1)}, once("w"))
	s, f := loads.Sure(p, []api.Load{uniform("w", 0, 1)}, once("w"))
	if e != api.OK || f != api.OK || !same(n[2], third) || !sameSpan(s[2], api.Span{Lo: third, Hi: math.Nextafter(third, 2)}) || !same(n[1], -2) {
		t.Error(n, e, s, f)
	}
}

// P23.3: numbers that are no float for their littleness: subnormal ones, and noughts with their sign.
func TestSubnormal(t *testing.T) {
	rounds(t, atB(1), least, least, least, least)
	rounds(t, atB(0.5), least, 0, least, 0) // halfway to 0, whose last bit is 0
	rounds(t, atB(-0.5), least, -least, minus, minus)
	rounds(t, atB(0.5), -least, -least, minus, minus)
	rounds(t, atB(0.75), least, 0, least, least)
	rounds(t, atB(-0.75), least, -least, minus, -least)
	rounds(t, atB(0.25), least, 0, least, 0)
	rounds(t, atB(1.5), least, least, 2*least, 2*least)
	rounds(t, atB(2.5), least, 2*least, 3*least, 2*least)
	rounds(t, atB(-2.5), least, -3*least, -2*least, -2*least)
	rounds(t, atB(3.5), least, 3*least, 4*least, 4*least)
	rounds(t, atB(0.5, tiny), least, 0, least, least)
	rounds(t, atB(0.5, -tiny), least, 0, least, 0)
	rounds(t, atB(tiny), least, 0, least, 0)
	rounds(t, atB(-tiny), least, -least, minus, minus)
	rounds(t, atB(tiny), 0x1p-925, least, least, least)
	rounds(t, atB(tiny), -0x1p-926, -least, minus, minus)
	rounds(t, atB(tiny), 3*0x1p-926, least, 2*least, 2*least)
	// At the edge to those that are not subnormal.
	const normal = 0x1p-1022
	rounds(t, atB(1), normal, normal, normal, normal)
	rounds(t, atB(1, -0x1p-53), normal, normal-least, normal, normal)
	rounds(t, atB(1, 0x1p-53), normal, normal, normal+least, normal)
	rounds(t, atB(1, -0x1p-53, -0x1p-52), normal, normal-2*least, normal-least, normal-2*least)
}

// P23.3: many numbers beside one another, against the words, to the bit.
func TestFloatsByWords(t *testing.T) {
	r := rand.New(rand.NewSource(21))
	ties := 0
	for range 3000 {
		var numbers []float32
		for range 1 + r.Intn(4) {
			numbers = append(numbers, anyNumber(r))
		}
		if r.Intn(2) == 0 { // so that halfway is met often
			numbers = append(numbers[:1], float32(math.Ldexp(float64(numbers[0]), -53)), float32(math.Ldexp(float64(numbers[0]), -52)))[:2+r.Intn(2)]
		}
		l := atB(numbers...)
		if !slices.ContainsFunc(l, func(x api.Load) bool { return x.X > mostLoad || x.X < -mostLoad }) {
			c := combo(part("w", []float64{anyFactor(r), 1, -1, math.Ldexp(1, r.Intn(1095)-1074)}[r.Intn(4)]))
			checked(t, chapter(), l, c)
			v := byWords(chapter(), l, c)[1][0]
			down, up, _ := around(v)
			if twice := times(whole(2), v); twice.Cmp(sum(exactly(down), exactly(up))) == 0 && down != up {
				ties++
			}
		}
	}
	if ties < 50 {
		t.Error(ties)
	}
}
