package moved_test

import (
	"math"
	"math/rand"
	"testing"

	"girder/api"
	"girder/moved"
	"girder/span"
)

// P24.2: the floats of Solve are those of Near, to the bit; where Near has an error Solve has it.
func TestNearOfBoth(t *testing.T) {
	r := rand.New(rand.NewSource(11))
	for range 200 {
		a := asked(anyGiven(t, r, 6, r.Intn(40)))
		switch {
		case a.errors[0] != api.OK && a.errors[1] != a.errors[0]:
			t.Fatal(a)
		case a.errors[1] == api.OK && (len(a.solve.Near) != len(a.near) || len(a.solve.Sure) != len(a.near)):
			t.Fatal(a)
		case a.errors[1] != api.OK:
			continue
		}
		for k, x := range a.near {
			if !same(x, a.solve.Near[k]) {
				t.Fatal(a)
			}
		}
	}
}

// P24.2: ErrBound where floats are told, though no bound is found: no floats stand beside it.
func TestBound(t *testing.T) {
	met := map[api.Errno]int{}
	for k := range 58 {
		p := slanted(3)
		p.Joints = append(p.Joints, joint(1, 1, api.FixY))
		p.Joints[2].Name = "far"
		p.Members = append(p.Members, bar(0, 2, math.Ldexp(5, k)))
		p.Members[1].Name = "strong"
		g := given{p: p, l: []api.Load{force("w", 2, 1, 0, 0)}, c: once("w"), at: exactPlan(t, p, lowEnd)}
		e := solve(t, g)
		met[e]++
		want := [3]api.Errno{e, e, api.OK}
		if e == api.ErrBound {
			want[0] = api.OK
			if x, f := moved.Near(g.p, g.l, g.c); f != api.OK || len(x) != 2 {
				t.Error(k, x, f)
			}
		}
		refused(t, g, want)
		exact(t, g)
	}
	if met[api.OK] < 40 || met[api.ErrBound] < 1 || met[api.ErrPivot] < 1 {
		t.Error(met)
	}
}

// P24.4: Near need not lie in Sure's spans; that is no fault.
func TestNearOutside(t *testing.T) {
	beams := [2]api.Member{hinged(0, 2, false, true), hinged(0, 3, true, false)}
	for i := range beams {
		beams[i].Area, beams[i].I = 1, 1
	}
	p := made([]api.Joint{joint(0, 1, api.FixY+api.FixTurn), joint(2, 2, api.FixX+api.FixTurn), joint(3, 534234, api.FixTurn), joint(-4, 230, fixPoint)},
		beams[0], beams[1], bar(2, 1, 1))
	g := given{p: p, l: []api.Load{uniform("w", 1, 1)}, c: once("w")}
	if e := solve(t, g); e != api.OK {
		t.Fatal(e)
	}
	m, _ := moved.Solve(g.p, g.l, g.c)
	outside := 0
	for k, s := range m.Sure {
		if !span.Has(s, m.Near[k]) {
			outside++
		}
	}
	if outside == 0 {
		t.Error(m)
	}
	encloses(t, g)
}

// within fails unless the moves of the exact plan of g lie in the spans of m, number by number.
func within(t *testing.T, m api.Moved, g given) {
	t.Helper()
	x, e := moved.Exact(g.p, g.l, g.c, g.at)
	if e != api.OK || len(x) != len(m.Sure) {
		t.Fatal(g, e, len(x))
	}
	for k, v := range fractions(x) {
		if !holds(m.Sure[k], v) {
			t.Fatalf("%+v: %v at %d isn't in %v", g, v, k, m.Sure[k])
		}
	}
}

// encloses fails unless the moves of exact plans, at both ends of the springs' spans, between them, and mixed, lie in the spans that are told.
func encloses(t *testing.T, g given) {
	t.Helper()
	m, e := moved.Solve(g.p, g.l, g.c)
	if e != api.OK {
		t.Fatal(g, e)
	}
	r := rand.New(rand.NewSource(12))
	middle := func(s api.Span) api.Dyad { return between(s, 32) }
	for _, choose := range []func(s api.Span) api.Dyad{lowEnd, highEnd, middle, anyEnd(r), anyEnd(r), anyEnd(r)} {
		g.at = exactPlan(t, g.p, choose)
		exact(t, g)
		within(t, m, g)
	}
}

// P24.4, P2: the moves of every exact plan lie in the spans, number by number.
func TestSure(t *testing.T) {
	r := rand.New(rand.NewSource(13))
	told := 0
	for _, wide := range []int{0, 3, 10, 30} {
		for range 40 {
			g := anyGiven(t, r, 5, wide)
			if _, e := moved.Solve(g.p, g.l, g.c); e == api.OK {
				encloses(t, g)
				told++
			}
		}
	}
	if told < 100 {
		t.Error(told)
	}
}

// P24.4: each spring at either end, the others anywhere.
func TestSureSpringBySpring(t *testing.T) {
	r := rand.New(rand.NewSource(14))
	g := given{p: slanted(3, 5, 7, 0.1), l: []api.Load{force("w", 0, 1, 0, 0)}, c: once("w")}
	frame := made([]api.Joint{joint(0, 0, fixAll), joint(1, 5, 0), joint(8, 6, 0), joint(9, 1, fixPoint)}, beam(0, 1), beam(1, 2), hinged(2, 3, false, true), bar(0, 2, 3))
	h := given{p: frame, l: []api.Load{force("w", 1, 2, 0, -1), uniform("w", 1, 3)}, c: combo(part("w", 1.35))}
	for _, g := range []given{g, h} {
		m, e := moved.Solve(g.p, g.l, g.c)
		if e != api.OK {
			t.Fatal(e)
		}
		springs, _ := parts(t, g.p)
		for k, s := range springs {
			for _, end := range []api.Dyad{lowEnd(s.S), highEnd(s.S)} {
				at := exactPlan(t, g.p, anyEnd(r))
				at[k] = end
				within(t, m, given{g.p, g.l, g.c, at})
			}
		}
	}
}

// P24.2: the greatest plan: 16 joints, 48 beams, 48 unknowns.
func TestGreatest(t *testing.T) {
	r := rand.New(rand.NewSource(15))
	for _, wide := range []int{0, 5} {
		p := greatest(r, wide)
		g := given{p: p, l: anyLoads(t, r, p, api.MaxLoads, api.MaxCases), at: exactPlan(t, p, anyEnd(r))}
		for i := range api.MaxCases {
			g.c.Parts = append(g.c.Parts, part(caseName(i), 1+r.Float64()))
		}
		_, places := parts(t, p)
		if e := solve(t, g); e != api.OK || places.N < 45 {
			t.Fatal(e, places.N)
		}
		m, _ := moved.Solve(g.p, g.l, g.c)
		exact(t, g)
		within(t, m, g)
	}
}

// greatest is 48 beams between 16 joints, one of which is held in part.
func greatest(r *rand.Rand, wide int) api.Plan {
	var l []api.Member
	for i := range api.MaxMembers {
		m := beam(i%16, (i%16+1+i/16)%16)
		m.E, m.Area, m.I = anySize(r, wide), anySize(r, wide), anySize(r, wide)
		l = append(l, m)
	}
	var joints []api.Joint
	for i := range int32(16) {
		joints = append(joints, joint(i%4*5+int32(r.Intn(5)), i/4*5+int32(r.Intn(5)), 0))
	}
	joints[0].Fix, joints[9].Fix = fixPoint, api.FixY
	return made(joints, l...)
}
