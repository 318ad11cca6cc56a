package stiff_test

import (
	"math"
	"math/big"
	"math/rand"
	"slices"
	"testing"

	"girder/api"
	"girder/bars"
	"girder/dyad"
	"girder/span"
	"girder/stiff"
)

const (
	edge     = int32(1 << 20) // the greatest size of a coordinate
	least    = 0x1p-60        // of E, Area, I
	most     = 0x1p60
	fixPoint = api.FixX + api.FixY
	fixAll   = fixPoint + api.FixTurn
	widest   = 64 * api.MaxLimbs // bits of a right dyad
)

// bar is one from the joint a to the joint b, whose stiffness is 1 if it is 5 long.
func bar(a, b int) api.Member { return api.Member{Kind: api.Bar, A: a, B: b, E: 2, Area: 62.5} }

// beam is one without a hinge, whose stiffnesses are 1, 3 and 625 if it is 5 long.
func beam(a, b int) api.Member {
	return api.Member{Kind: api.Beam, A: a, B: b, E: 1, Area: 125, I: 3125}
}

// hinged is a beam with hinges at the ends told.
func hinged(a, b int, atA, atB bool) api.Member {
	m := beam(a, b)
	m.HingeA, m.HingeB = atA, atB
	return m
}

// strong is m with an E that makes it so many times as stiff.
func strong(m api.Member, times float64) api.Member {
	m.E *= times
	return m
}

func joint(x, y int32, fix uint8) api.Joint { return api.Joint{X: x, Y: y, Fix: fix} }

// name is one for each number up to 675.
func name(i int) string { return string([]byte{'m', 'a' + byte(i/26), 'a' + byte(i%26)}) }

// made is a plan of these, each with a name of its own.
func made(joints []api.Joint, members ...api.Member) api.Plan {
	p := api.Plan{Joints: slices.Clone(joints), Members: slices.Clone(members)}
	for i := range p.Joints {
		p.Joints[i].Name = name(i)
	}
	for i := range p.Members {
		p.Members[i].Name = name(i)
	}
	return p
}

// three is the chapter's joints, 3 along x and 4 along y from each other, with what is held of both, and members between.
func three(a, b uint8, members ...api.Member) api.Plan {
	return made([]api.Joint{joint(0, 0, a), joint(3, 4, b)}, members...)
}

func copied(p api.Plan) api.Plan {
	return api.Plan{Joints: slices.Clone(p.Joints), Members: slices.Clone(p.Members)}
}

// loose is p with nothing held.
func loose(p api.Plan) api.Plan {
	p = copied(p)
	for i := range p.Joints {
		p.Joints[i].Fix = 0
	}
	return p
}

// anyNumber is what E, Area, I may be, at both edges too.
func anyNumber(r *rand.Rand) float64 {
	switch r.Intn(8) {
	case 0:
		return least
	case 1:
		return most
	case 2, 3, 4:
		return 1 + r.Float64()
	}
	return math.Ldexp(1+r.Float64(), r.Intn(120)-60)
}

// anyCoordinate is a little one, or one of any size, or at an edge.
func anyCoordinate(r *rand.Rand) int32 {
	switch r.Intn(8) {
	case 0, 1:
		return int32(r.Intn(2<<20+1)) - edge
	case 2:
		return edge - 2*edge*int32(r.Intn(2))
	}
	return int32(r.Intn(9)) - 4
}

func anyJoints(r *rand.Rand, n int) []api.Joint {
	var l []api.Joint
	for len(l) < n {
		j := joint(anyCoordinate(r), anyCoordinate(r), 0)
		if r.Intn(3) == 0 {
			j.Fix = uint8(r.Intn(8))
		}
		if !slices.ContainsFunc(l, func(k api.Joint) bool { return k.X == j.X && k.Y == j.Y }) {
			l = append(l, j)
		}
	}
	return l
}

// anyMember is one of any kind between two of n joints.
func anyMember(r *rand.Rand, n int) api.Member {
	a := r.Intn(n)
	b := (a + 1 + r.Intn(n-1)) % n
	m := bar(a, b)
	if r.Intn(2) == 0 {
		m = hinged(a, b, r.Intn(3) == 0, r.Intn(3) == 0)
		m.I = anyNumber(r)
	}
	m.E, m.Area = anyNumber(r), anyNumber(r)
	return m
}

// anyPlan is one that may be, of two to so many joints.
func anyPlan(r *rand.Rand, joints, members int) api.Plan {
	n := 2 + r.Intn(joints-1)
	l := make([]api.Member, members)
	for i := range l {
		l[i] = anyMember(r, n)
	}
	return made(anyJoints(r, n), l...)
}

// full is 48 beams between 16 joints with nothing held: 144 springs, 48 unknowns.
func full(r *rand.Rand) api.Plan {
	var l []api.Member
	for i := range 48 {
		m := beam(i%16, (i%16+1+i/16)%16)
		m.E, m.Area, m.I = anyNumber(r), anyNumber(r), anyNumber(r)
		l = append(l, m)
	}
	return loose(made(anyJoints(r, 16), l...))
}

// parts is what the chapter speaks of: the springs and the unknowns of a plan that may be.
func parts(t *testing.T, p api.Plan) ([]api.Spring, api.Places) {
	t.Helper()
	springs, e := bars.Springs(p)
	places, f := bars.Unknowns(p)
	if e != api.OK || f != api.OK {
		t.Fatal(p, e, f)
	}
	return springs, places
}

// numberAt is the number of a spring's row that stands at an unknown; 0, if its member does not end there.
func numberAt(p api.Plan, places api.Places, s api.Spring, unknown int) int64 {
	for i, joint := range []int{p.Members[s.Member].A, p.Members[s.Member].B} {
		for k, there := range places.Of[joint] {
			if there == unknown {
				return s.Row[3*i+k]
			}
		}
	}
	return 0
}

// entries is the chapter's words, entry by entry: from zero on, put for each spring, in their order, whose numbers there are not 0.
func entries[N any](t *testing.T, p api.Plan, zero func() N, put func(entry N, spring int, a, b int64) N) []N {
	t.Helper()
	springs, places := parts(t, p)
	l := []N{}
	for i := range places.N {
		for j := range places.N {
			entry := zero()
			for k, s := range springs {
				a, b := numberAt(p, places, s, i), numberAt(p, places, s, j)
				if a != 0 && b != 0 {
					entry = put(entry, k, a, b)
				}
			}
			l = append(l, entry)
		}
	}
	return l
}

// The ways of rounding, of long floats of as many bits as floats have. (No number here is near the least or the greatest float.)
const (
	nearest = big.ToNearestEven
	down    = big.ToNegativeInf
	up      = big.ToPositiveInf
)

func times(m big.RoundingMode, x, y float64) float64 {
	z, _ := new(big.Float).SetPrec(53).SetMode(m).Mul(big.NewFloat(x), big.NewFloat(y)).Float64()
	return z
}

func plus(m big.RoundingMode, x, y float64) float64 {
	z, _ := new(big.Float).SetPrec(53).SetMode(m).Add(big.NewFloat(x), big.NewFloat(y)).Float64()
	return z
}

// nearByWords is what Near must tell.
func nearByWords(t *testing.T, p api.Plan) []float64 {
	t.Helper()
	springs, _ := parts(t, p)
	return entries(t, p, func() float64 { return 0 }, func(entry float64, spring int, a, b int64) float64 {
		return plus(nearest, entry, times(nearest, springs[spring].Near, times(nearest, float64(a), float64(b))))
	})
}

// timesSpan is the product of spans without an infinite end, by its four corners.
func timesSpan(a, b api.Span) api.Span {
	corners := func(m big.RoundingMode) []float64 {
		return []float64{times(m, a.Lo, b.Lo), times(m, a.Lo, b.Hi), times(m, a.Hi, b.Lo), times(m, a.Hi, b.Hi)}
	}
	return api.Span{Lo: slices.Min(corners(down)), Hi: slices.Max(corners(up))}
}

// one is the span of one number.
func one(x float64) api.Span { return api.Span{Lo: x, Hi: x} }

// sureByWords is what Sure must tell.
func sureByWords(t *testing.T, p api.Plan) []api.Span {
	t.Helper()
	springs, _ := parts(t, p)
	return entries(t, p, func() api.Span { return api.Span{} }, func(entry api.Span, spring int, a, b int64) api.Span {
		more := timesSpan(springs[spring].S, timesSpan(one(float64(a)), one(float64(b))))
		return api.Span{Lo: plus(down, entry.Lo, more.Lo), Hi: plus(up, entry.Hi, more.Hi)}
	})
}

// deep: exact numbers are told as whole ones, times 2 to the power -deep.
const deep = 20000

// value is d as such a whole number.
func value(d api.Dyad) *big.Int {
	v := new(big.Int)
	for _, limb := range slices.Backward(d.Mag) {
		v.Lsh(v, 64).Or(v, new(big.Int).SetUint64(limb))
	}
	if d.Neg {
		v.Neg(v)
	}
	return v.Lsh(v, uint(d.Exp+deep))
}

// valueOf is a finite float as such a whole number.
func valueOf(x float64) *big.Int {
	d, _ := dyad.Of(x)
	return value(d)
}

// right is the right dyad of such a whole number, and whether there is one.
func right(v *big.Int) (api.Dyad, bool) {
	if v.Sign() == 0 {
		return api.Dyad{}, true
	}
	rest := new(big.Int).Abs(v)
	zeros := rest.TrailingZeroBits()
	rest.Rsh(rest, zeros)
	d := api.Dyad{Neg: v.Sign() < 0, Exp: int(zeros) - deep}
	ok := rest.BitLen() <= widest
	for limb := new(big.Int); rest.Sign() > 0; rest.Rsh(rest, 64) {
		d.Mag = append(d.Mag, limb.And(rest, new(big.Int).SetUint64(math.MaxUint64)).Uint64())
	}
	return d, ok
}

// dyadOf is right of a number that has a right dyad.
func dyadOf(t *testing.T, v *big.Int) api.Dyad {
	t.Helper()
	d, ok := right(v)
	if !ok || !dyad.Right(d) {
		t.Fatal("too long")
	}
	return d
}

// exactByWords is the numbers that Exact must tell, or whose lengths it must refuse.
func exactByWords(t *testing.T, p api.Plan, at []api.Dyad) []*big.Int {
	t.Helper()
	return entries(t, p, func() *big.Int { return new(big.Int) }, func(entry *big.Int, spring int, a, b int64) *big.Int {
		more := new(big.Int).Mul(big.NewInt(a), big.NewInt(b))
		return entry.Add(entry, more.Mul(more, value(at[spring])))
	})
}

func tooLong(v *big.Int) bool {
	_, ok := right(v)
	return !ok
}

// anyWithin is a number of s, a dyad of so many bits at most: one of its ends, now and then.
func anyWithin(t *testing.T, r *rand.Rand, s api.Span, bits int) api.Dyad {
	t.Helper()
	lo, hi := valueOf(s.Lo), valueOf(s.Hi)
	switch r.Intn(6) {
	case 0:
		return dyadOf(t, lo)
	case 1:
		return dyadOf(t, hi)
	}
	part := new(big.Int).Rand(r, new(big.Int).Lsh(big.NewInt(1), uint(bits)))
	x := part.Add(lo, part.Rsh(part.Mul(part, new(big.Int).Sub(hi, lo)), uint(bits)))
	below := max(x.BitLen()-bits, 0) // what is cut off leaves it at lo or above, as that has few bits
	x.Lsh(x.Rsh(x, uint(below)), uint(below))
	return dyadOf(t, x)
}

// anyExact is an exact plan of p.
func anyExact(t *testing.T, r *rand.Rand, p api.Plan, bits int) []api.Dyad {
	t.Helper()
	springs, _ := parts(t, p)
	at := make([]api.Dyad, len(springs))
	for k, s := range springs {
		at[k] = anyWithin(t, r, s.S, bits)
	}
	return at
}

func same(a, b float64) bool { return math.Float64bits(a) == math.Float64bits(b) }

func sameSpan(a, b api.Span) bool { return same(a.Lo, b.Lo) && same(a.Hi, b.Hi) }

func sameDyad(a, b api.Dyad) bool {
	return a.Neg == b.Neg && a.Exp == b.Exp && slices.Equal(a.Mag, b.Mag)
}

// mirrored tells whether a square matrix is the same turned over.
func mirrored[N any](n int, data []N, same func(a, b N) bool) bool {
	for i := range n {
		for j := range n {
			if !same(data[i*n+j], data[j*n+i]) {
				return false
			}
		}
	}
	return true
}

// near fails unless Near tells a square matrix, symmetric to the bit, of these numbers.
func near(t *testing.T, p api.Plan, n int, want ...float64) {
	t.Helper()
	m, e := stiff.Near(p)
	if e != api.OK || m.Rows != n || m.Cols != n || !slices.EqualFunc(m.Data, want, same) {
		t.Fatalf("Near(%+v): %v, %d, not %d by %d of %v", p, m, e, n, n, want)
	}
	if !mirrored(n, m.Data, same) {
		t.Fatalf("Near(%+v): %v isn't symmetric", p, m)
	}
}

// sure fails unless Sure tells a square matrix, symmetric to the bit, of these spans, all of them right.
func sure(t *testing.T, p api.Plan, n int, want ...api.Span) {
	t.Helper()
	m, e := stiff.Sure(p)
	if e != api.OK || m.Rows != n || m.Cols != n || !slices.EqualFunc(m.Data, want, sameSpan) {
		t.Fatalf("Sure(%+v): %v, %d, not %d by %d of %v", p, m, e, n, n, want)
	}
	wrong := func(s api.Span) bool { return !span.Right(s) }
	if !mirrored(n, m.Data, sameSpan) || slices.ContainsFunc(m.Data, wrong) {
		t.Fatalf("Sure(%+v): %v isn't symmetric, or not right", p, m)
	}
}

// exact fails unless Exact tells a square matrix, symmetric to the bit, of right dyads of these numbers; or ErrLong, if one of them is too long.
func exact(t *testing.T, p api.Plan, at []api.Dyad, n int, want ...*big.Int) {
	t.Helper()
	if slices.ContainsFunc(want, tooLong) {
		inexact(t, p, at, api.ErrLong)
		return
	}
	m, e := stiff.Exact(p, at)
	if e != api.OK || m.Rows != n || m.Cols != n || len(m.Data) != len(want) {
		t.Fatalf("Exact(%+v, ..): %d by %d of %d, %d, not %d by %d", p, m.Rows, m.Cols, len(m.Data), e, n, n)
	}
	for i, d := range m.Data {
		if w, _ := right(want[i]); !sameDyad(d, w) {
			t.Fatalf("Exact(%+v, ..): %v at %d, not %v", p, d, i, w)
		}
	}
	if !mirrored(n, m.Data, sameDyad) {
		t.Fatalf("Exact(%+v, ..) isn't symmetric", p)
	}
}

// inexact fails unless Exact tells that error, and nothing beside it.
func inexact(t *testing.T, p api.Plan, at []api.Dyad, want api.Errno) {
	t.Helper()
	if m, e := stiff.Exact(p, at); e != want || m.Rows != 0 || m.Cols != 0 || len(m.Data) != 0 {
		t.Fatalf("Exact(%+v, %d dyads): %d by %d of %d, %d, not %d", p, len(at), m.Rows, m.Cols, len(m.Data), e, want)
	}
}

// checked fails unless all three matrices are what the words say.
func checked(t *testing.T, p api.Plan, at []api.Dyad) {
	t.Helper()
	_, places := parts(t, p)
	near(t, p, places.N, nearByWords(t, p)...)
	sure(t, p, places.N, sureByWords(t, p)...)
	exact(t, p, at, places.N, exactByWords(t, p, at)...)
}

// wholes is whole numbers as exact ones.
func wholes(l ...int64) []*big.Int {
	out := make([]*big.Int, len(l))
	for i, n := range l {
		out[i] = value(dyad.Int(n))
	}
	return out
}

// ints is whole numbers as dyads.
func ints(l ...int64) []api.Dyad {
	out := make([]api.Dyad, len(l))
	for i, n := range l {
		out[i] = dyad.Int(n)
	}
	return out
}

// all fails unless the three matrices are these whole numbers, of a plan whose springs, as stiff as at says, are known exactly. The noughts are +0.
func all(t *testing.T, p api.Plan, at []int64, n int, want ...int64) {
	t.Helper()
	floats, spans := make([]float64, len(want)), make([]api.Span, len(want))
	for i, w := range want {
		floats[i], spans[i] = float64(w), one(float64(w))
	}
	near(t, p, n, floats...)
	sure(t, p, n, spans...)
	exact(t, p, ints(at...), n, wholes(want...)...)
}
