package span_test

import (
	"math"
	"math/big"
	"math/rand"
	"slices"
	"testing"

	"girder/api"
	"girder/bits"
	"girder/dyad"
	"girder/round"
	"girder/span"
)

const (
	least  = 0x1p-1074
	normal = 0x1p-1022
	most   = math.MaxFloat64
	ulp    = 0x1p-52
)

var (
	minus0 = math.Copysign(0, -1)
	inf    = math.Inf(1)
	nan    = math.NaN()
)

type (
	one func(s api.Span) (api.Span, api.Errno)
	two func(a, b api.Span) (api.Span, api.Errno)
)

func of(lo, hi float64) api.Span { return api.Span{Lo: lo, Hi: hi} }

func sameFloat(a, b float64) bool { return math.Float64bits(a) == math.Float64bits(b) }

func same(a, b api.Span) bool { return sameFloat(a.Lo, b.Lo) && sameFloat(a.Hi, b.Hi) }

func finite(x float64) bool { return !math.IsNaN(x) && !math.IsInf(x, 0) }

// ends is floats at all edges, of both signs, the least first.
func ends() []float64 {
	sizes := []float64{0, least, 3 * least, normal, 0x1p-537, 0.1, 1, 1 + ulp, 3, 0x1p512, most, inf}
	var out []float64
	for _, x := range slices.Backward(sizes) {
		out = append(out, -x)
	}
	return append(out, sizes...)
}

// spans is all right spans with such ends, noughts in every order.
func spans() []api.Span {
	var out []api.Span
	for _, lo := range ends() {
		for _, hi := range ends() {
			if lo <= hi && lo != inf && hi != -inf {
				out = append(out, of(lo, hi))
			}
		}
	}
	return out
}

// wrong is spans that are not right.
func wrong() []api.Span {
	return []api.Span{
		of(2, 1), of(least, 0), of(0, -least), of(inf, inf), of(-inf, -inf), of(inf, -inf), of(inf, 1), of(1, -inf),
		of(nan, 1), of(1, nan), of(nan, nan), of(nan, inf), of(-inf, nan), of(1+ulp, 1),
	}
}

// anySpan is spans of all sizes, the same ones at each run.
func anySpan(r *rand.Rand) api.Span {
	a, b := anyFloat(r), anyFloat(r)
	if r.Intn(3) == 0 {
		b = a + math.Abs(a)*math.Ldexp(r.Float64(), -r.Intn(60))
	}
	return of(min(a, b), max(a, b))
}

func anyFloat(r *rand.Rand) float64 {
	x := math.Float64frombits(r.Uint64())
	switch r.Intn(3) {
	case 0:
		x = float64(r.Intn(41) - 20)
	case 1:
		x = math.Ldexp(r.Float64()-0.5, r.Intn(80)-40)
	}
	if !finite(x) {
		return 1
	}
	return x
}

// P5.1: which spans are right, at all pairs of ends, and what Make tells of them.
func TestMake(t *testing.T) {
	all := append(ends(), nan, math.Float64frombits(0xFFF0000000000001))
	for _, lo := range all {
		for _, hi := range all {
			want := api.OK
			switch {
			case lo != lo || hi != hi:
				want = api.ErrNumber
			case lo > hi || lo == inf || hi == -inf:
				want = api.ErrArg
			}
			if got := span.Right(of(lo, hi)); got != (want == api.OK) {
				t.Errorf("Right of [%x, %x]: %v", lo, hi, got)
			}
			s, e := span.Make(lo, hi)
			if e != want || e == api.OK && !same(s, of(lo, hi)) || e != api.OK && !same(s, api.Span{}) {
				t.Errorf("Make(%x, %x): %x, %v, want %v", lo, hi, s, e, want)
			}
		}
	}
	for _, s := range wrong() {
		if span.Right(s) {
			t.Errorf("%x is right", s)
		}
	}
}

// P5.1: example 1.
func TestMakeExamples(t *testing.T) {
	for _, c := range []struct {
		lo, hi float64
		want   api.Errno
	}{
		{1, 2, api.OK}, {2, 1, api.ErrArg}, {inf, inf, api.ErrArg}, {-inf, -inf, api.ErrArg}, {nan, 1, api.ErrNumber}, {1, nan, api.ErrNumber},
		{inf, nan, api.ErrNumber}, {nan, -inf, api.ErrNumber}, {-inf, inf, api.OK}, {0, minus0, api.OK}, {minus0, 0, api.OK}, {1, 1, api.OK}, {-inf, -most, api.OK}, {most, inf, api.OK},
	} {
		if _, e := span.Make(c.lo, c.hi); e != c.want {
			t.Errorf("Make(%x, %x): %v, want %v", c.lo, c.hi, e, c.want)
		}
	}
}

// P5.1: Of one float.
func TestOf(t *testing.T) {
	for _, x := range append(ends(), nan, math.Float64frombits(0x7FF0000000000001)) {
		s, e := span.Of(x)
		if !finite(x) {
			if e != api.ErrNumber || !same(s, api.Span{}) {
				t.Errorf("Of(%x): %x, %v", x, s, e)
			}
		} else if e != api.OK || !same(s, of(x, x)) {
			t.Errorf("Of(%x): %x, %v", x, s, e)
		}
	}
}

// P5.2, P5.3: examples 2 to 4, and edges, of two spans.
func TestTwo(t *testing.T) {
	third := math.Ldexp(6004799503160661, -54)
	for i, c := range []struct {
		do         two
		a, b, want api.Span
	}{
		{span.Add, of(1, 2), of(3, 4), of(4, 6)},
		{span.Add, of(most, most), of(most, most), of(most, inf)},
		{span.Add, of(-most, -most), of(-most, -most), of(-inf, -most)},
		{span.Add, of(1, 1), of(-1, -1), of(minus0, 0)},
		{span.Add, of(1, 1), of(0x1p-60, 0x1p-60), of(1, 1+ulp)},
		{span.Add, of(-1, -1), of(-0x1p-60, -0x1p-60), of(-1-ulp, -1)},
		{span.Add, of(minus0, minus0), of(minus0, minus0), of(minus0, minus0)},
		{span.Add, of(0, 0), of(minus0, minus0), of(minus0, 0)},
		{span.Add, of(-inf, 1), of(most, inf), of(-inf, inf)},
		{span.Add, of(-inf, inf), of(-inf, inf), of(-inf, inf)},

		{span.Sub, of(1, 2), of(1, 2), of(-1, 1)},
		{span.Sub, of(1, 1), of(1, 1), of(minus0, 0)},
		{span.Sub, of(0, 0), of(0, 0), of(minus0, 0)},
		{span.Sub, of(5, 7), of(1, 2), of(3, 6)},
		{span.Sub, of(-inf, 2), of(1, inf), of(-inf, 1)},
		{span.Sub, of(most, most), of(-most, 1), of(bits.Next(most, false), inf)},
		{span.Sub, of(1, 1), of(0x1p-60, 0x1p-60), of(1-ulp/2, 1)},

		{span.Mul, of(-1, 2), of(3, 4), of(-4, 8)},
		{span.Mul, of(-3, 2), of(-5, 7), of(-21, 15)},
		{span.Mul, of(-3, -2), of(-5, -4), of(8, 15)},
		{span.Mul, of(0, 0), of(-inf, inf), of(0, 0)},
		{span.Mul, of(minus0, minus0), of(-inf, inf), of(0, 0)},
		{span.Mul, of(-inf, inf), of(minus0, 0), of(0, 0)},
		{span.Mul, of(least, least), of(least, least), of(0, least)},
		{span.Mul, of(-least, -least), of(least, least), of(-least, minus0)},
		{span.Mul, of(-3, -2), of(-inf, 5), of(-15, inf)},
		{span.Mul, of(0, 1), of(2, inf), of(0, inf)},
		{span.Mul, of(-1, 0), of(2, inf), of(-inf, 0)},
		{span.Mul, of(minus0, 0), of(1, 1), of(minus0, 0)},
		{span.Mul, of(0, 0), of(-1, 1), of(minus0, 0)},
		{span.Mul, of(0, 0), of(-2, -1), of(minus0, minus0)},
		{span.Mul, of(most, most), of(2, 2), of(most, inf)},
		{span.Mul, of(-inf, inf), of(-inf, inf), of(-inf, inf)},
		{span.Mul, of(-inf, -1), of(-inf, -1), of(1, inf)},

		{span.Div, of(1, 1), of(3, 3), of(third, bits.Next(third, true))},
		{span.Div, of(1, inf), of(2, inf), of(0, inf)},
		{span.Div, of(-inf, -1), of(2, inf), of(-inf, 0)},
		{span.Div, of(-4, 6), of(-2, -1), of(-6, 4)},
		{span.Div, of(-inf, inf), of(2, inf), of(-inf, inf)},
		{span.Div, of(1, 2), of(4, inf), of(0, 0.5)},
		{span.Div, of(1, 2), of(-inf, -4), of(-0.5, minus0)},
		{span.Div, of(-1, 1), of(1, inf), of(-1, 1)},
		{span.Div, of(0, 0), of(-2, -1), of(minus0, minus0)},
		{span.Div, of(least, least), of(most, most), of(0, least)},
		{span.Div, of(most, most), of(least, least), of(most, inf)},
		{span.Div, of(1, 1), of(least, 1), of(1, inf)},

		{span.Meet, of(1, 3), of(2, 4), of(2, 3)},
		{span.Meet, of(1, 2), of(2, 3), of(2, 2)},
		{span.Meet, of(-inf, 2), of(1, inf), of(1, 2)},
		{span.Meet, of(-inf, inf), of(-inf, inf), of(-inf, inf)},
		{span.Meet, of(0, 5), of(minus0, 7), of(0, 5)},
		{span.Meet, of(-5, 0), of(-7, minus0), of(-5, minus0)},
		{span.Meet, of(-1, minus0), of(0, 1), of(0, minus0)},
		{span.Meet, of(1, 5), of(2, 3), of(2, 3)},
	} {
		if s, e := c.do(c.a, c.b); e != api.OK || !same(s, c.want) {
			t.Errorf("%d: %x, %x: %x, %v, want %x", i, c.a, c.b, s, e, c.want)
		}
	}
}

// P5.2: examples 3, and edges, of one span.
func TestOne(t *testing.T) {
	root := math.Ldexp(6369051672525772, -52)
	for i, c := range []struct {
		do      one
		s, want api.Span
	}{
		{span.Neg, of(1, 2), of(-2, -1)},
		{span.Neg, of(0, inf), of(-inf, minus0)},
		{span.Neg, of(minus0, 0), of(minus0, 0)},
		{span.Neg, of(0, 0), of(minus0, minus0)},
		{span.Neg, of(0, minus0), of(0, minus0)},

		{span.Abs, of(-3, 2), of(0, 3)},
		{span.Abs, of(-2, 3), of(0, 3)},
		{span.Abs, of(2, 3), of(2, 3)},
		{span.Abs, of(-3, -2), of(2, 3)},
		{span.Abs, of(0, 3), of(0, 3)},
		{span.Abs, of(minus0, 3), of(0, 3)},
		{span.Abs, of(-3, minus0), of(0, 3)},
		{span.Abs, of(-3, 0), of(0, 3)},
		{span.Abs, of(minus0, minus0), of(0, 0)},
		{span.Abs, of(0, minus0), of(0, 0)},
		{span.Abs, of(-least, least), of(0, least)},
		{span.Abs, of(-inf, -2), of(2, inf)},
		{span.Abs, of(-inf, 2), of(0, inf)},
		{span.Abs, of(least, inf), of(least, inf)},

		{span.Square, of(-3, 2), of(0, 9)},
		{span.Square, of(2, 3), of(4, 9)},
		{span.Square, of(-3, -2), of(4, 9)},
		{span.Square, of(-inf, -2), of(4, inf)},
		{span.Square, of(minus0, minus0), of(0, 0)},
		{span.Square, of(least, 1+ulp), of(0, 1+3*ulp)},
		{span.Square, of(1+ulp, most), of(1+2*ulp, inf)},
		{span.Square, of(most, most), of(most, inf)},

		{span.Sqrt, of(4, 9), of(2, 3)},
		{span.Sqrt, of(minus0, 4), of(minus0, 2)},
		{span.Sqrt, of(0, minus0), of(0, minus0)},
		{span.Sqrt, of(2, 2), of(root, root+ulp)},
		{span.Sqrt, of(least, inf), of(0x1p-537, inf)},
	} {
		if s, e := c.do(c.s); e != api.OK || !same(s, c.want) {
			t.Errorf("%d: %x: %x, %v, want %x", i, c.s, s, e, c.want)
		}
	}
}

// refused checks that a call told an error and nothing beside it.
func refused(t *testing.T, what string, s api.Span, e, want api.Errno) {
	t.Helper()
	if e != want || !same(s, api.Span{}) {
		t.Errorf("%s: %x, %v, want %v", what, s, e, want)
	}
}

// P5.2, P5.3, P5.5, P5.6: spans that are not right are refused, wherever they stand, ahead of all other errors.
func TestWrongSpans(t *testing.T) {
	ones := []one{span.Neg, span.Abs, span.Square, span.Sqrt}
	twos := []two{span.Add, span.Sub, span.Mul, span.Div, span.Meet}
	good := []api.Span{of(1, 2), of(-1, 1), of(0, 0), of(-inf, inf), of(7, inf)}
	for _, w := range wrong() {
		for i, do := range ones {
			s, e := do(w)
			refused(t, "one "+string(rune('0'+i)), s, e, api.ErrArg)
		}
		for _, g := range append(good, w) {
			for i, do := range twos {
				s, e := do(w, g)
				refused(t, "two, the first, "+string(rune('0'+i)), s, e, api.ErrArg)
				s, e = do(g, w)
				refused(t, "two, the second, "+string(rune('0'+i)), s, e, api.ErrArg)
			}
			for _, l := range [][]api.Span{{w}, {w, g}, {g, w}, {g, w, g}} {
				s, e := span.Hull(l...)
				refused(t, "Hull", s, e, api.ErrArg)
				s, e = span.Sum(l)
				refused(t, "Sum", s, e, api.ErrArg)
				s, e = span.Dot(l, slices.Repeat(good[:1], len(l)))
				refused(t, "Dot", s, e, api.ErrArg)
				s, e = span.Dot(slices.Repeat(good[:1], len(l)), l)
				refused(t, "Dot", s, e, api.ErrArg)
				s, e = span.Dot(l, nil)
				refused(t, "Dot with none", s, e, api.ErrShape)
			}
			if span.In(w, g) || span.In(g, w) {
				t.Errorf("In of %x and %x", w, g)
			}
		}
		for _, do := range []func(s api.Span) (float64, api.Errno){span.Width, span.Mid, span.Mag} {
			if x, e := do(w); e != api.ErrArg || !sameFloat(x, 0) {
				t.Errorf("measured %x: %x, %v", w, x, e)
			}
		}
		for _, x := range append(ends(), nan) {
			if span.Has(w, x) {
				t.Errorf("%x has %x", w, x)
			}
		}
		if span.Holds(w, api.Dyad{}) || span.Holds(w, dyad.Int(1)) {
			t.Errorf("%x holds", w)
		}
	}
}

// P5.2, P5.3: the errors of one call alone.
func TestOtherErrors(t *testing.T) {
	for _, b := range []api.Span{of(0, 1), of(minus0, 1), of(-1, 0), of(-1, minus0), of(-1, 1), of(0, 0), of(0, minus0), of(-inf, inf), of(-inf, 0), of(minus0, inf)} {
		for _, a := range []api.Span{of(1, 2), of(0, 0), of(-inf, inf)} {
			s, e := span.Div(a, b)
			refused(t, "Div", s, e, api.ErrZero)
		}
	}
	for _, b := range []api.Span{of(least, 1), of(-1, -least), of(least, inf), of(-inf, -least)} {
		if _, e := span.Div(of(0, 1), b); e != api.OK {
			t.Errorf("Div by %x: %v", b, e)
		}
	}
	for _, s := range []api.Span{of(-1, 4), of(-least, 0), of(-inf, inf), of(-2, -1)} {
		r, e := span.Sqrt(s)
		refused(t, "Sqrt", r, e, api.ErrArg)
	}
	for _, l := range [][2]api.Span{{of(1, 2), of(3, 4)}, {of(3, 4), of(1, 2)}, {of(1, 1), of(1+ulp, 2)}, {of(-inf, -least), of(0, inf)}} {
		s, e := span.Meet(l[0], l[1])
		refused(t, "Meet", s, e, api.ErrMeet)
	}
	s, e := span.Hull()
	refused(t, "Hull of none", s, e, api.ErrArg)
	s, e = span.Hull([]api.Span{}...)
	refused(t, "Hull of none", s, e, api.ErrArg)
}

// byWords is what the chapter says of all four corners.
func byWords(a, b api.Span, do func(x, y float64, m api.Mode) float64) api.Span {
	var down, up []float64
	for _, x := range []float64{a.Lo, a.Hi} {
		for _, y := range []float64{b.Lo, b.Hi} {
			down = append(down, do(x, y, api.Down))
			up = append(up, do(x, y, api.Up))
		}
	}
	slices.SortFunc(down, bits.Order)
	slices.SortFunc(up, bits.Order)
	return of(down[0], up[3])
}

func productOfEnds(x, y float64, m api.Mode) float64 {
	if p := round.Mul(x, y, m); p == p {
		return p
	}
	return 0
}

func quotientOfEnds(x, y float64, m api.Mode) float64 {
	if q := round.Div(x, y, m); q == q {
		return q
	}
	return 0
}

// told checks that a call tells just this, and that it is right.
func told(t *testing.T, what string, a, b, got api.Span, e api.Errno, want api.Span) {
	t.Helper()
	if e != api.OK || !same(got, want) || !span.Right(got) {
		t.Fatalf("%s of %x, %x: %x, %v, want %x", what, a, b, got, e, want)
	}
}

// P5.2, P5.3, P5.7: all pairs of edges, to the bit, as the chapter says it; what is told is right.
func TestToTheBit(t *testing.T) {
	all := spans()
	for _, a := range all {
		for _, b := range all {
			s, e := span.Add(a, b)
			told(t, "Add", a, b, s, e, of(round.Add(a.Lo, b.Lo, api.Down), round.Add(a.Hi, b.Hi, api.Up)))
			s, e = span.Sub(a, b)
			told(t, "Sub", a, b, s, e, of(round.Sub(a.Lo, b.Hi, api.Down), round.Sub(a.Hi, b.Lo, api.Up)))
			s, e = span.Mul(a, b)
			told(t, "Mul", a, b, s, e, byWords(a, b, productOfEnds))
			if s, e = span.Div(a, b); b.Lo <= 0 && b.Hi >= 0 {
				refused(t, "Div", s, e, api.ErrZero)
			} else {
				told(t, "Div", a, b, s, e, byWords(a, b, quotientOfEnds))
			}
			lows, highs := []float64{a.Lo, b.Lo}, []float64{a.Hi, b.Hi}
			slices.SortFunc(lows, bits.Order)
			slices.SortFunc(highs, bits.Order)
			s, e = span.Hull(a, b)
			told(t, "Hull", a, b, s, e, of(lows[0], highs[1]))
			if s, e = span.Meet(a, b); lows[1] > highs[0] {
				refused(t, "Meet", s, e, api.ErrMeet)
			} else {
				told(t, "Meet", a, b, s, e, of(lows[1], highs[0]))
			}
			if got := span.In(a, b); got != (b.Lo <= a.Lo && a.Hi <= b.Hi) {
				t.Fatalf("In of %x, %x: %v", a, b, got)
			}
		}
	}
}

// P5.3: Hull of many, and of one.
func TestHull(t *testing.T) {
	for i, c := range []struct {
		l    []api.Span
		want api.Span
	}{
		{[]api.Span{of(1, 2), of(5, 6)}, of(1, 6)},
		{[]api.Span{of(5, 6), of(1, 2)}, of(1, 6)},
		{[]api.Span{of(3, 4)}, of(3, 4)},
		{[]api.Span{of(3, 4), of(-1, 0), of(2, 9), of(0, 8)}, of(-1, 9)},
		{[]api.Span{of(0, minus0), of(minus0, 0)}, of(minus0, 0)},
		{[]api.Span{of(minus0, 0), of(0, minus0)}, of(minus0, 0)},
		{[]api.Span{of(0, minus0), of(0, minus0)}, of(0, minus0)},
		{[]api.Span{of(1, 2), of(-inf, 0), of(7, inf)}, of(-inf, inf)},
	} {
		kept := slices.Clone(c.l)
		if s, e := span.Hull(c.l...); e != api.OK || !same(s, c.want) {
			t.Errorf("%d: %x, %v, want %x", i, s, e, c.want)
		}
		if !slices.EqualFunc(kept, c.l, same) {
			t.Errorf("%d: what was handed in has changed", i)
		}
	}
}

// P5.4: Has, at all spans and floats; and its examples.
func TestHas(t *testing.T) {
	for _, s := range spans() {
		for _, x := range append(ends(), nan, 0.5, -2, 1e300) {
			want := !math.IsNaN(x) && !math.IsInf(x, 0) && !(x < s.Lo) && !(x > s.Hi)
			if got := span.Has(s, x); got != want {
				t.Fatalf("Has of %x, %x: %v", s, x, got)
			}
		}
	}
	if !span.Has(of(1, 2), 2) || !span.Has(of(1, 2), 1) || span.Has(of(-inf, 5), -inf) || span.Has(of(1, inf), inf) || !span.Has(of(0, minus0), minus0) || !span.Has(of(0, 0), minus0) {
		t.Error("examples of Has")
	}
	if !span.In(of(1, 2), of(0, 2)) || span.In(of(0, 2), of(1, 2)) || !span.In(of(1, 2), of(1, 2)) || span.In(of(1, 3), of(1, 2)) || !span.In(of(0, 0), of(minus0, minus0)) {
		t.Error("examples of In")
	}
}

// P5.4: Holds, at floats as dyads, and between floats, beyond all floats, at what is no right dyad.
func TestHolds(t *testing.T) {
	for _, s := range spans() {
		for _, x := range ends() {
			if d, e := dyad.Of(x); e == api.OK && span.Holds(s, d) != span.Has(s, x) {
				t.Fatalf("Holds of %x, %x: %v", s, x, !span.Has(s, x))
			}
		}
	}
	tie := api.Dyad{Mag: []uint64{1<<53 + 1}, Exp: -53} // halfway from 1 to the next float
	far := api.Dyad{Mag: []uint64{1}, Exp: 60000}
	near := api.Dyad{Mag: []uint64{1}, Exp: -60000}
	below := func(d api.Dyad) api.Dyad { d.Neg = true; return d }
	for i, c := range []struct {
		s    api.Span
		d    api.Dyad
		want bool
	}{
		{of(1, 1), tie, false}, {of(1, 1+ulp), tie, true}, {of(1+ulp, 2), tie, false}, {of(-1-ulp, -1), below(tie), true}, {of(-1, -1), below(tie), false},
		{of(0, most), far, false}, {of(0, inf), far, true}, {of(-inf, inf), below(far), true}, {of(-most, inf), below(far), false}, {of(-inf, 0), far, false},
		{of(0, 0), near, false}, {of(0, least), near, true}, {of(least, 1), near, false}, {of(-least, minus0), below(near), true}, {of(0, 1), below(near), false}, {of(minus0, 1), below(near), false},
		{of(0, 0), api.Dyad{}, true}, {of(minus0, minus0), api.Dyad{}, true}, {of(1, 2), api.Dyad{}, false},
		{of(0, 9), api.Dyad{Mag: []uint64{2}}, false}, {of(-inf, inf), api.Dyad{Neg: true}, false}, {of(-inf, inf), api.Dyad{Mag: []uint64{1, 0}}, false}, {of(-1, 1), api.Dyad{Exp: 3}, false}, {of(-inf, inf), api.Dyad{Mag: []uint64{1}, Exp: api.MaxExp + 1}, false},
	} {
		if got := span.Holds(c.s, c.d); got != c.want {
			t.Errorf("%d: %x holds %v: %v", i, c.s, c.d, got)
		}
	}
}

// P5.5: examples 4, and edges.
func TestMeasure(t *testing.T) {
	for i, c := range []struct {
		do   func(s api.Span) (float64, api.Errno)
		s    api.Span
		want float64
		e    api.Errno
	}{
		{span.Width, of(-most, most), inf, api.OK}, {span.Width, of(1, 3), 2, api.OK}, {span.Width, of(1, 1), 0, api.OK}, {span.Width, of(-0x1p-60, 1), 1 + ulp, api.OK},
		{span.Width, of(0, minus0), minus0, api.OK}, {span.Width, of(minus0, 0), 0, api.OK}, {span.Width, of(-inf, inf), inf, api.OK}, {span.Width, of(-inf, -5), inf, api.OK}, {span.Width, of(5, inf), inf, api.OK},
		{span.Mid, of(1, 2), 1.5, api.OK}, {span.Mid, of(least, least), 0, api.OK}, {span.Mid, of(-least, -least), minus0, api.OK}, {span.Mid, of(3*least, 3*least), 4 * least, api.OK}, {span.Mid, of(most, most), most, api.OK}, {span.Mid, of(-most, most), 0, api.OK},
		{span.Mid, of(minus0, minus0), minus0, api.OK}, {span.Mid, of(minus0, 0), 0, api.OK}, {span.Mid, of(least, 3*least), 2 * least, api.OK}, {span.Mid, of(1, 1+ulp), 1, api.OK}, {span.Mid, of(1+ulp, 1+2*ulp), 1 + 2*ulp, api.OK},
		{span.Mid, of(0, inf), 0, api.ErrOver}, {span.Mid, of(-inf, 0), 0, api.ErrOver}, {span.Mid, of(-inf, inf), 0, api.ErrOver}, {span.Mid, of(2, 1), 0, api.ErrArg}, {span.Mid, of(inf, 1), 0, api.ErrArg},
		{span.Mag, of(-3, 2), 3, api.OK}, {span.Mag, of(-2, 3), 3, api.OK}, {span.Mag, of(-inf, 2), inf, api.OK}, {span.Mag, of(minus0, minus0), 0, api.OK}, {span.Mag, of(-5, -4), 5, api.OK}, {span.Mag, of(4, inf), inf, api.OK},
	} {
		if x, e := c.do(c.s); e != c.e || !sameFloat(x, c.want) {
			t.Errorf("%d: %x: %x, %v, want %x", i, c.s, x, e, c.want)
		}
	}
	for _, s := range spans() {
		x, e := span.Mid(s)
		if !finite(s.Lo) || !finite(s.Hi) {
			if e != api.ErrOver {
				t.Fatalf("Mid of %x: %v", s, e)
			}
			continue
		}
		lo, hi := round.Div(s.Lo, 2, api.Nearest), round.Div(s.Hi, 2, api.Nearest)
		if want := round.Add(lo, hi, api.Nearest); e != api.OK || !sameFloat(x, want) {
			t.Fatalf("Mid of %x: %x, %v, want %x", s, x, e, want)
		}
	}
}

// P5.6: example 5, lists of none and of unlike lengths, and sums whose order counts.
func TestLists(t *testing.T) {
	tiny := of(0x1p-60, 0x1p-60)
	for i, c := range []struct {
		l    []api.Span
		want api.Span
	}{
		{nil, of(0, 0)},
		{[]api.Span{}, of(0, 0)},
		{[]api.Span{of(minus0, minus0)}, of(minus0, 0)},
		{[]api.Span{of(1, 2), of(3, 4), of(-5, 6)}, of(-1, 12)},
		{[]api.Span{of(1, 1), tiny, of(-1, -1)}, of(minus0, ulp)},
		{[]api.Span{of(1, 1), of(-1, -1), tiny}, of(0x1p-60, 0x1p-60)},
		{[]api.Span{tiny, tiny, of(1, 1)}, of(1, 1+ulp)},
		{[]api.Span{of(1, 1), tiny, tiny}, of(1, 1+2*ulp)},
		{[]api.Span{of(-inf, 1), of(2, inf)}, of(-inf, inf)},
	} {
		kept := slices.Clone(c.l)
		if s, e := span.Sum(c.l); e != api.OK || !same(s, c.want) {
			t.Errorf("%d: %x, %v, want %x", i, s, e, c.want)
		}
		units := slices.Repeat([]api.Span{of(1, 1)}, len(c.l))
		if s, e := span.Dot(c.l, units); e != api.OK || !same(s, c.want) {
			t.Errorf("%d: with 1: %x, %v, want %x", i, s, e, c.want)
		}
		if !slices.EqualFunc(kept, c.l, same) {
			t.Errorf("%d: what was handed in has changed", i)
		}
	}
	if s, e := span.Dot([]api.Span{of(1, 2), of(1, 1)}, []api.Span{of(3, 3), of(-1, 1)}); e != api.OK || !same(s, of(2, 7)) {
		t.Errorf("Dot: %x, %v", s, e)
	}
	if s, e := span.Dot([]api.Span{of(0, 0), of(2, 3)}, []api.Span{of(-inf, inf), of(-1, 4)}); e != api.OK || !same(s, of(-3, 12)) {
		t.Errorf("Dot: %x, %v", s, e)
	}
	for _, l := range [][]api.Span{{of(1, 2)}, {of(2, 1)}, {of(1, 1), of(nan, 1), of(1, 1)}} {
		s, e := span.Dot(l, []api.Span{of(1, 1), of(2, 1)})
		refused(t, "Dot", s, e, api.ErrShape)
		s, e = span.Dot(nil, l)
		refused(t, "Dot", s, e, api.ErrShape)
	}
}

// P5.6: against one step after the other.
func TestListsStepByStep(t *testing.T) {
	r := rand.New(rand.NewSource(1))
	for range 300 {
		var a, b []api.Span
		sum, dot := of(0, 0), of(0, 0)
		for range r.Intn(9) {
			x, y := anySpan(r), anySpan(r)
			a, b = append(a, x), append(b, y)
			sum, _ = span.Add(sum, x)
			p, _ := span.Mul(x, y)
			dot, _ = span.Add(dot, p)
		}
		if s, e := span.Sum(a); e != api.OK || !same(s, sum) {
			t.Fatalf("Sum of %x: %x, %v, want %x", a, s, e, sum)
		}
		if s, e := span.Dot(a, b); e != api.OK || !same(s, dot) {
			t.Fatalf("Dot of %x, %x: %x, %v, want %x", a, b, s, e, dot)
		}
	}
}

func exact(x float64) *big.Rat { return new(big.Rat).SetFloat64(x) }

// lies tells whether an exact number is one of s.
func lies(x *big.Rat, s api.Span) bool {
	return (math.IsInf(s.Lo, -1) || exact(s.Lo).Cmp(x) <= 0) && (math.IsInf(s.Hi, 1) || x.Cmp(exact(s.Hi)) <= 0)
}

// numbers is some numbers of s: its ends, beside them, between them.
func numbers(s api.Span) []*big.Rat {
	var out []*big.Rat
	for _, x := range []float64{s.Lo, s.Hi, bits.Next(s.Lo, true), bits.Next(s.Hi, false), s.Lo/2 + s.Hi/2, 0, most, -1} {
		if finite(x) && s.Lo <= x && x <= s.Hi {
			out = append(out, exact(x))
		}
	}
	if finite(s.Lo) && finite(s.Hi) {
		middle := new(big.Rat).Add(exact(s.Lo), exact(s.Hi))
		out = append(out, middle.Mul(middle, big.NewRat(1, 2)))
	}
	return out
}

// P5.7: numbers of both spans come to numbers of what is told.
func TestNumbersLieWithin(t *testing.T) {
	r := rand.New(rand.NewSource(2))
	list := []api.Span{of(-inf, inf), of(-inf, 3), of(0.1, inf), of(0, 0), of(-least, least), of(least, 3*least), of(-most, most), of(most, most), of(-1, 1), of(0.1, 0.1), of(1, 1+ulp), of(-3, -1-ulp), of(0, 3), of(-7, 0), of(-normal, -least), of(0x1p-537, 0x1p512)}
	for len(list) < 60 {
		list = append(list, anySpan(r))
	}
	for _, a := range list {
		withinOne(t, a)
		for _, b := range list {
			withinTwo(t, a, b)
		}
	}
}

func within(t *testing.T, what string, a, b api.Span, x *big.Rat, s api.Span) {
	t.Helper()
	if !lies(x, s) {
		t.Fatalf("%s of %x, %x: %x has no %v", what, a, b, s, x)
	}
}

func withinTwo(t *testing.T, a, b api.Span) {
	t.Helper()
	sum, _ := span.Add(a, b)
	diff, _ := span.Sub(a, b)
	prod, _ := span.Mul(a, b)
	quot, e := span.Div(a, b)
	for _, x := range numbers(a) {
		for _, y := range numbers(b) {
			within(t, "Add", a, b, new(big.Rat).Add(x, y), sum)
			within(t, "Sub", a, b, new(big.Rat).Sub(x, y), diff)
			within(t, "Mul", a, b, new(big.Rat).Mul(x, y), prod)
			if e == api.OK {
				within(t, "Div", a, b, new(big.Rat).Quo(x, y), quot)
			}
		}
	}
}

func withinOne(t *testing.T, s api.Span) {
	t.Helper()
	neg, _ := span.Neg(s)
	abs, _ := span.Abs(s)
	square, _ := span.Square(s)
	for _, x := range numbers(s) {
		within(t, "Neg", s, s, new(big.Rat).Neg(x), neg)
		within(t, "Abs", s, s, new(big.Rat).Abs(x), abs)
		within(t, "Square", s, s, new(big.Rat).Mul(x, x), square)
		root, e := span.Sqrt(abs)
		if e != api.OK || root.Lo < 0 || !span.Right(root) {
			t.Fatalf("Sqrt of %x: %x, %v", abs, root, e)
		}
		// The root of |x| lies within, if |x| lies between the squares of the ends.
		low, size := exact(root.Lo), new(big.Rat).Abs(x)
		if low.Mul(low, low).Cmp(size) > 0 {
			t.Fatalf("Sqrt of %x: %x, above that of %v", abs, root, x)
		}
		if finite(root.Hi) {
			if high := exact(root.Hi); high.Mul(high, high).Cmp(size) < 0 {
				t.Fatalf("Sqrt of %x: %x, below that of %v", abs, root, x)
			}
		}
	}
	if mag, _ := span.Mag(s); abs.Hi != mag {
		t.Fatalf("Mag of %x: %x", s, mag)
	}
}

// P5.7: what is told is no wider than floats must be: one end more inward would leave out a number.
func TestNoWider(t *testing.T) {
	r := rand.New(rand.NewSource(3))
	for range 2000 {
		a, b := anySpan(r), anySpan(r)
		s, _ := span.Mul(a, b)
		var least, greatest *big.Rat
		for _, x := range []float64{a.Lo, a.Hi} {
			for _, y := range []float64{b.Lo, b.Hi} {
				p := new(big.Rat).Mul(exact(x), exact(y))
				if least == nil || p.Cmp(least) < 0 {
					least = p
				}
				if greatest == nil || p.Cmp(greatest) > 0 {
					greatest = p
				}
			}
		}
		inner := of(bits.Next(s.Lo, true), bits.Next(s.Hi, false))
		if !math.IsInf(inner.Lo, 0) && exact(inner.Lo).Cmp(least) <= 0 || !math.IsInf(inner.Hi, 0) && exact(inner.Hi).Cmp(greatest) >= 0 {
			t.Fatalf("Mul of %x, %x: %x is too wide", a, b, s)
		}
	}
}

// P5.7: of spans that lie in others the answer lies in that of those.
func TestInOthers(t *testing.T) {
	var list []api.Span
	for _, lo := range []float64{-inf, -3, -least, minus0, 0, least, 1, most} {
		for _, hi := range []float64{-most, -1, minus0, 0, 3 * least, 1, 5, inf} {
			if lo <= hi {
				list = append(list, of(lo, hi))
			}
		}
	}
	ones := []one{span.Neg, span.Abs, span.Square, span.Sqrt}
	twos := []two{span.Add, span.Sub, span.Mul, span.Div}
	for _, a := range list {
		for _, wide := range list {
			if !span.In(a, wide) {
				continue
			}
			for i, do := range ones {
				s, _ := do(a)
				if w, e := do(wide); e == api.OK && !span.In(s, w) {
					t.Fatalf("one %d: of %x in %x: %x, %x", i, a, wide, s, w)
				}
			}
			for _, b := range list {
				for i, do := range twos {
					s, _ := do(a, b)
					if w, e := do(wide, b); e == api.OK && !span.In(s, w) {
						t.Fatalf("two %d: of %x in %x, with %x: %x, %x", i, a, wide, b, s, w)
					}
					s, _ = do(b, a)
					if w, e := do(b, wide); e == api.OK && !span.In(s, w) {
						t.Fatalf("two %d: %x with %x in %x: %x, %x", i, b, a, wide, s, w)
					}
				}
			}
		}
	}
}

// P5.7: Hull has the numbers of each, Meet just those that are in both.
func TestHullAndMeetHave(t *testing.T) {
	all := spans()
	for _, a := range all {
		for _, b := range all {
			hull, _ := span.Hull(a, b)
			meet, e := span.Meet(a, b)
			for _, x := range ends() {
				inA, inB := span.Has(a, x), span.Has(b, x)
				if (inA || inB) && !span.Has(hull, x) {
					t.Fatalf("Hull of %x, %x has no %x", a, b, x)
				}
				if got := e == api.OK && span.Has(meet, x); got != (inA && inB) {
					t.Fatalf("Meet of %x, %x: %x, and %x", a, b, meet, x)
				}
			}
		}
	}
}
