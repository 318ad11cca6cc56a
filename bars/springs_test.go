package bars_test

import (
	"math"
	"math/big"
	"math/rand"
	"slices"
	"testing"

	"girder/api"
	"girder/bars"
	"girder/bits"
	"girder/joints"
	"girder/ratio"
	"girder/span"
)

func sameSpan(a, b api.Span) bool { return same(a.Lo, b.Lo) && same(a.Hi, b.Hi) }

func sameSpring(a, b api.Spring) bool {
	return a.Member == b.Member && a.Kind == b.Kind && a.Row == b.Row && sameSpan(a.S, b.S) && same(a.Near, b.Near)
}

func sprung(t *testing.T, p api.Plan) []api.Spring {
	t.Helper()
	l, e := bars.Springs(p)
	if e != api.OK {
		t.Fatalf("Springs(%+v): %d", p, e)
	}
	return l
}

// one is the span of one number.
func one(x float64) api.Span { return api.Span{Lo: x, Hi: x} }

func mul(t *testing.T, a, b api.Span) api.Span {
	t.Helper()
	s, e := span.Mul(a, b)
	if e != api.OK {
		t.Fatal(a, b, e)
	}
	return s
}

func div(t *testing.T, a, b api.Span) api.Span {
	t.Helper()
	s, e := span.Div(a, b)
	if e != api.OK {
		t.Fatal(a, b, e)
	}
	return s
}

// stiff is how stiff a spring of that kind is by the chapter's table, word for word: as a span, and as a float.
func stiff(t *testing.T, kind uint8, m api.Member, a, b api.Joint) (api.Span, float64) {
	t.Helper()
	_, _, square := joints.Apart(a, b)
	l, near := joints.Length(a, b)
	l2 := float64(square)
	switch kind {
	case api.SpringAxial:
		s := div(t, mul(t, one(m.E), one(m.Area)), mul(t, one(l2), l))
		return s, float64(float64(m.E*m.Area) / float64(l2*near))
	case api.SpringBow, api.SpringOne:
		s := div(t, mul(t, one(3), mul(t, one(m.E), one(m.I))), mul(t, mul(t, one(l2), one(l2)), l))
		return s, float64(float64(3*float64(m.E*m.I)) / float64(float64(l2*l2)*near))
	}
	return div(t, mul(t, one(m.E), one(m.I)), l), float64(float64(m.E*m.I) / near)
}

// kindsAndRows is what DOC.md's table says of a member.
func kindsAndRows(m api.Member, dx, dy int64) ([]uint8, [][6]int64) {
	l2 := dx*dx + dy*dy
	axial := [6]int64{-dx, -dy, 0, dx, dy, 0}
	switch {
	case m.Kind == api.Beam && !m.HingeA && !m.HingeB:
		return []uint8{1, 2, 3}, [][6]int64{axial, {-2 * dy, 2 * dx, l2, 2 * dy, -2 * dx, l2}, {0, 0, 1, 0, 0, -1}}
	case m.Kind == api.Beam && !m.HingeA:
		return []uint8{1, 4}, [][6]int64{axial, {-dy, dx, l2, dy, -dx, 0}}
	case m.Kind == api.Beam && !m.HingeB:
		return []uint8{1, 4}, [][6]int64{axial, {-dy, dx, 0, dy, -dx, l2}}
	}
	return []uint8{1}, [][6]int64{axial}
}

// springsByWords is what Springs must tell of a plan that may be.
func springsByWords(t *testing.T, p api.Plan) []api.Spring {
	t.Helper()
	l := []api.Spring{}
	for i, m := range p.Members {
		a, b := p.Joints[m.A], p.Joints[m.B]
		kinds, rows := kindsAndRows(m, int64(b.X)-int64(a.X), int64(b.Y)-int64(a.Y))
		for k, kind := range kinds {
			s, near := stiff(t, kind, m, a, b)
			l = append(l, api.Spring{Member: i, Kind: kind, Row: rows[k], S: s, Near: near})
		}
	}
	return l
}

// springs fails unless Springs tells what the words say, to the bit.
func springs(t *testing.T, p api.Plan) {
	t.Helper()
	got, want := sprung(t, p), springsByWords(t, p)
	if !slices.EqualFunc(got, want, sameSpring) {
		t.Fatalf("Springs(%+v):\n%v, not\n%v", p, got, want)
	}
}

// The springs of the chapter's examples 1 and 2.
func TestExamplesOfSprings(t *testing.T) {
	is := func(p api.Plan, want ...api.Spring) {
		t.Helper()
		if l := sprung(t, p); !slices.EqualFunc(l, want, sameSpring) {
			t.Errorf("%+v: %v, not %v", p, l, want)
		}
	}
	rounded := func(num, den int64, kind uint8, row [6]int64) api.Spring {
		r, e := ratio.Div(ratio.Int(num), ratio.Int(den))
		if e != api.OK {
			t.Fatal(num, den, e)
		}
		lo, _ := ratio.Round(r, api.Down)
		hi, _ := ratio.Round(r, api.Up)
		near, _ := ratio.Round(r, api.Nearest)
		return api.Spring{Kind: kind, Row: row, S: api.Span{Lo: lo, Hi: hi}, Near: near}
	}
	axial := rounded(10, 125, 1, [6]int64{-3, -4, 0, 3, 4, 0})
	if bits.Next(axial.S.Lo, true) != axial.S.Hi {
		t.Error(axial)
	}
	bow := rounded(42, 3125, 2, [6]int64{-8, 6, 25, 8, -6, 25})
	ends := rounded(14, 5, 3, [6]int64{0, 0, 1, 0, 0, -1})
	is(three(bar(0, 1)), axial)
	is(three(beam(0, 1, false, false)), axial, bow, ends)
	is(three(beam(0, 1, false, true)), axial, rounded(42, 3125, 4, [6]int64{-4, 3, 25, 4, -3, 0}))
	is(three(beam(0, 1, true, false)), axial, rounded(42, 3125, 4, [6]int64{-4, 3, 0, 4, -3, 25}))
	is(three(beam(0, 1, true, true)), axial)
}

// P19.3: no member, no spring; 48 members with three each; members and springs in their order.
func TestManySprings(t *testing.T) {
	for _, p := range []api.Plan{{}, {Joints: grid(16)}, three()} {
		if l := sprung(t, p); len(l) != 0 {
			t.Error(l)
		}
	}
	for n := range 49 {
		springs(t, frame(n))
	}
	p := frame(48)
	for i := range p.Members {
		m := beam(p.Members[i].A, p.Members[i].B, false, false)
		m.Name = p.Members[i].Name
		p.Members[i] = m
	}
	springs(t, p)
	l := sprung(t, p)
	if len(l) != 144 || l[143].Member != 47 || l[143].Kind != api.SpringEnds || l[142].Kind != api.SpringBow || l[141].Kind != api.SpringAxial || l[141].Member != 47 || l[140].Member != 46 {
		t.Error(len(l))
	}
}

// edges are numbers at the edges of what may be, and such as make each step inexact.
func edges() []float64 {
	return []float64{least, bits.Next(least, true), bits.Next(most, false), most, 1, 1.0 / 3, 0.1, 7, 1e9 + 1, 0x1.fffffffffffffp3}
}

// P19.3: members along x, along y, in all quarters, of the least and of the greatest length, with numbers at both edges.
func TestDirections(t *testing.T) {
	ends := [][4]int32{
		{0, 0, 1, 0}, {0, 0, -1, 0}, {0, 0, 0, 1}, {0, 0, 0, -1}, {5, 5, 2, 5}, {5, 5, 5, 11}, {0, 0, 1, 1}, {0, 0, -1, 1}, {0, 0, 1, -1}, {0, 0, -1, -1}, {7, -3, 5, 8}, {1, 2, 4, 6},
		{-edge, 0, edge, 0}, {edge, 3, -edge, 3}, {0, edge, 0, -edge}, {9, -edge, 9, edge},
		{-edge, -edge, edge, edge}, {edge, -edge, -edge, edge}, {-edge, edge, edge, -edge}, {edge, edge, -edge, -edge}, {-edge, -edge, edge, edge - 1}, {edge, edge, edge - 1, edge},
	}
	for _, x := range ends {
		joints := []api.Joint{{Name: "a", X: x[0], Y: x[1]}, {Name: "b", X: x[2], Y: x[3]}}
		for _, m := range []api.Member{bar(0, 1), beam(0, 1, false, false), beam(0, 1, true, false), beam(0, 1, false, true), beam(0, 1, true, true), beam(1, 0, true, false)} {
			for _, e := range edges() {
				for _, other := range edges() {
					m.E, m.Area = e, other
					if m.Kind == api.Beam {
						m.I = other
						m.Area = 1 / other // as may be as other is
						if !mayNumber(m.Area) {
							m.Area = other
						}
					}
					p := api.Plan{Joints: joints, Members: []api.Member{m}}
					springs(t, p)
					trueWithin(t, p)
				}
			}
		}
	}
}

// P19.3: what is held plays no part in springs, nor do members beside.
func TestSpringsStandAlone(t *testing.T) {
	p := frame(10)
	all := sprung(t, p)
	q := copied(p)
	for i := range q.Joints {
		q.Joints[i].Fix = uint8(i % 8)
	}
	if !slices.EqualFunc(all, sprung(t, q), sameSpring) {
		t.Error("Fix plays a part")
	}
	alone := []api.Spring{}
	for i, m := range p.Members {
		for _, s := range sprung(t, api.Plan{Joints: p.Joints, Members: []api.Member{m}}) {
			s.Member = i
			alone = append(alone, s)
		}
	}
	if !slices.EqualFunc(all, alone, sameSpring) {
		t.Error("members beside play a part")
	}
}

// P19.3: many plans, against the table, to the bit.
func TestSpringsByWords(t *testing.T) {
	r := rand.New(rand.NewSource(3))
	for range 600 {
		p := anyPlan(r, r.Intn(30))
		springs(t, p)
		trueWithin(t, p)
	}
}

// rat is x exactly.
func rat(x float64) *big.Rat { return new(big.Rat).SetFloat64(x) }

// times is the product of all, exactly.
func times(l ...*big.Rat) *big.Rat {
	out := big.NewRat(1, 1)
	for _, x := range l {
		out.Mul(out, x)
	}
	return out
}

// trueWithin is P19.5: S is right, above 0, finite, and as narrow as so few steps leave it; the true stiffness lies in it, and so does Near. As L is a root, squares are compared: how stiff a spring is, times itself and L2 so often, is what stands above the line times itself.
func trueWithin(t *testing.T, p api.Plan) {
	t.Helper()
	for _, s := range sprung(t, p) {
		m := p.Members[s.Member]
		_, _, square := joints.Apart(p.Joints[m.A], p.Joints[m.B])
		l2 := new(big.Rat).SetInt64(square)
		above, below := times(rat(m.E), rat(m.I)), times(l2, l2, l2, l2, l2)
		switch s.Kind {
		case api.SpringAxial:
			above, below = times(rat(m.E), rat(m.Area)), times(l2, l2, l2)
		case api.SpringEnds:
			below = l2
		default:
			above.Mul(above, big.NewRat(3, 1))
		}
		above.Mul(above, above)
		if !span.Right(s.S) || !(s.S.Lo > 0) || math.IsInf(s.S.Hi, 0) || !span.Has(s.S, s.Near) || s.S.Hi/s.S.Lo > 1+0x1p-48 {
			t.Fatalf("%+v: %v", m, s)
		}
		if times(rat(s.S.Lo), rat(s.S.Lo), below).Cmp(above) > 0 || times(rat(s.S.Hi), rat(s.S.Hi), below).Cmp(above) < 0 {
			t.Fatalf("the true stiffness of %+v does not lie in %v", m, s)
		}
	}
}

// turned is m from B to A.
func turned(m api.Member) api.Member {
	m.A, m.B, m.HingeA, m.HingeB = m.B, m.A, m.HingeB, m.HingeA
	return m
}

// P19.5: a member turned about has the same springs, to the bit, rows turned about. (That of SpringEnds is the table's either way: turned about, its signs turn.)
func TestTurnedAbout(t *testing.T) {
	r := rand.New(rand.NewSource(4))
	for range 500 {
		p := anyPlan(r, 1+r.Intn(20))
		q := copied(p)
		for i, m := range q.Members {
			q.Members[i] = turned(m)
		}
		there, back := sprung(t, p), sprung(t, q)
		if len(there) != len(back) {
			t.Fatal(len(there), len(back))
		}
		for i, s := range there {
			about := s
			about.Row = [6]int64{s.Row[3], s.Row[4], s.Row[5], s.Row[0], s.Row[1], s.Row[2]}
			if s.Kind == api.SpringEnds {
				about.Row = s.Row
			}
			if !sameSpring(about, back[i]) {
				t.Fatalf("%v, turned about %v", s, back[i])
			}
		}
		u, _ := bars.Unknowns(p)
		v, _ := bars.Unknowns(q)
		if u.N != v.N || !slices.Equal(u.Of, v.Of) {
			t.Fatal(u, v)
		}
	}
}

// P19.5: a plan all of whose joints stand elsewhere by the same has the same springs, to the bit, and the same unknowns.
func TestElsewhere(t *testing.T) {
	r := rand.New(rand.NewSource(5))
	for range 500 {
		p := anyPlan(r, r.Intn(20))
		for i := range p.Joints {
			p.Joints[i].X, p.Joints[i].Y = int32(i%4)*int32(1+r.Intn(9)), int32(i/4)*50+int32(r.Intn(40))
		}
		if e, _ := bars.Check(p); e != api.OK {
			continue
		}
		q := copied(p)
		x, y := int32(r.Intn(1<<20)), int32(r.Intn(1<<20))
		for i := range q.Joints {
			q.Joints[i].X, q.Joints[i].Y = q.Joints[i].X+x-edge, q.Joints[i].Y+y-edge
		}
		u, _ := bars.Unknowns(p)
		v, e := bars.Unknowns(q)
		if e != api.OK || u.N != v.N || !slices.Equal(u.Of, v.Of) || !slices.EqualFunc(sprung(t, p), sprung(t, q), sameSpring) {
			t.Fatal(p, q)
		}
	}
	// From one corner of where joints may stand to the other.
	low := api.Plan{Joints: []api.Joint{{Name: "a", X: -edge, Y: -edge}, {Name: "b", X: 2 - edge, Y: 3 - edge}}, Members: []api.Member{beam(0, 1, false, false)}}
	high := api.Plan{Joints: []api.Joint{{Name: "a", X: edge - 2, Y: edge - 3}, {Name: "b", X: edge, Y: edge}}, Members: low.Members}
	if !slices.EqualFunc(sprung(t, low), sprung(t, high), sameSpring) {
		t.Error(low, high)
	}
}
