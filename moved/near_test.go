package moved_test

import (
	"math"
	"math/big"
	"math/rand"
	"slices"
	"testing"

	"girder/api"
	"girder/loads"
	"girder/lower"
	"girder/moved"
	"girder/refine"
	"girder/stiff"
)

// The chapter's example 1.
func TestExampleOfBar(t *testing.T) {
	g := given{p: chapter(), l: []api.Load{force("w", 1, 6, 0, 0)}, c: once("w"), at: dyads(0.25)}
	a := asked(g)
	want := answers{near: []float64{1.5}, solve: api.Moved{Sure: []api.Span{{Lo: 1.5, Hi: 1.5}}, Near: []float64{1.5}}, exact: []api.Ratio{{Num: []uint64{3}, Den: []uint64{2}}}}
	if !sameAnswers(a, want) {
		t.Error(a)
	}
	for _, other := range []float64{0.5, 0.125, math.Nextafter(0.25, 0), math.Nextafter(0.25, 1), -0.25, 0} {
		g.at = dyads(other)
		refused(t, g, [3]api.Errno{api.OK, api.OK, api.ErrArg})
	}
}

// The chapter's example 2.
func TestExampleOfRefusal(t *testing.T) {
	push, at := []api.Load{force("w", 1, 6, 0, 0)}, dyads(0.25)
	refusedAll(t, given{loose(), push, once("w"), at}, api.ErrMotion)
	refusedAll(t, given{chapter(), []api.Load{force("w", 1, 6, 0, 0), force("w", 2, 6, 0, 0)}, once("w"), at}, api.ErrLoad)
	refusedAll(t, given{chapter(), push, once("v"), at}, api.ErrCase)
}

// DOC.md's examples 7 and 8: the moves of the true plan lie in the spans; without the bar ab it moves by itself.
func TestExampleOfWhole(t *testing.T) {
	p := made([]api.Joint{joint(0, 0, fixPoint), joint(4000, 0, api.FixY), joint(2000, 1500, 0)}, bar(0, 2, 2e8), bar(1, 2, 2e8), bar(0, 1, 2e8))
	l := []api.Load{force("d", 2, 0, -1000, 0)}
	m, e := moved.Solve(p, l, once("d"))
	if e != api.OK || len(m.Sure) != 3 {
		t.Fatal(m, e)
	}
	for k, want := range []*big.Rat{over(1, 75), over(1, 150), over(-21, 800)} {
		x, _ := want.Float64()
		if s := m.Sure[k]; !holds(s, want) || s.Hi-s.Lo > 1e-15 || math.Abs(m.Near[k]-x) > 1e-15 {
			t.Error(s, m.Near[k], want)
		}
	}
	p.Members = p.Members[:2]
	refusedAll(t, given{p: p, l: l, c: once("d")}, api.ErrMotion)
}

// P24.1 to P24.3: plans whose moves are known by heart.
func TestByHand(t *testing.T) {
	// Bars in a row are stretched each by itself.
	g := given{p: row(1, 2, 4), l: []api.Load{force("w", 3, 8, 0, 0), force("w", 1, -4, 0, 0)}, c: once("w"), at: dyads(1, 2, 4)}
	goes(t, g, whole(4), whole(8), whole(10))
	g.c = combo(part("w", -0.5))
	goes(t, g, whole(-2), whole(-4), whole(-5))
	g.c = combo(part("w", 0))
	goes(t, g, whole(0), whole(0), whole(0))

	// A beam held at one end, 8 long: with E I and E Area 64 its other end goes 512 / 192 times the force across and 8 / 64 times that along, and turns by 64 / 128 times.
	beamed := func(fix uint8, m api.Member) api.Plan {
		return made([]api.Joint{joint(0, 0, fixAll), joint(8, 0, fix)}, m)
	}
	springs := dyads(0.125, 3./512, 8)
	g = given{p: beamed(0, beam(0, 1)), l: []api.Load{force("w", 1, 5, -3, 0)}, c: once("w"), at: springs}
	goes(t, g, over(5, 8), whole(-8), over(-3, 2))
	g.l = []api.Load{force("w", 1, 0, 0, 1)} // a turn: 64 / 128 times it, 8 / 64 times it
	goes(t, g, whole(0), over(1, 2), over(1, 8))
	g.l = []api.Load{uniform("w", 0, 3)} // 8^4 / 512 times it, 8^3 / 384 times it
	goes(t, g, whole(0), whole(-24), whole(-4))
	g.l = []api.Load{force("w", 1, 5, -3, 0), force("v", 1, 0, 0, 1), uniform("u", 0, 3)}
	g.c = combo(part("u", 2), part("w", 1), part("v", -4))
	goes(t, g, over(5, 8), whole(-58), whole(-10))

	// Its other end on a support: it turns by 8^3 / (48 64) times the load.
	g = given{p: beamed(api.FixY, beam(0, 1)), l: []api.Load{uniform("w", 0, 3)}, c: once("w"), at: springs}
	goes(t, g, whole(0), over(1, 2))

	// With a hinge at its other end that has no turn to tell.
	g = given{p: beamed(0, hinged(0, 1, false, true)), l: []api.Load{force("w", 1, 5, -3, 0)}, c: once("w"), at: dyads(0.125, 3./512)}
	goes(t, g, over(5, 8), whole(-8))
	g.p = made([]api.Joint{joint(8, 0, 0), joint(0, 0, fixAll)}, hinged(0, 1, true, false))
	g.l[0].At = 0
	goes(t, g, over(5, 8), whole(-8))
}

// P24.1: a matrix of no row, and a list of none, where all is held or there is nothing.
func TestNoUnknown(t *testing.T) {
	held := chapter()
	held.Joints[1].Fix = fixPoint
	bound := made([]api.Joint{joint(0, 0, fixAll), joint(8, 0, fixAll)}, beam(0, 1))
	for _, g := range []given{
		{},
		{p: made([]api.Joint{joint(3, 4, fixPoint)})},
		{p: made([]api.Joint{joint(3, 4, fixAll), joint(5, 4, fixPoint)}), l: []api.Load{force("w", 0, 1, 2, 3)}, c: once("w")},
		{p: held, l: []api.Load{force("w", 1, 6, 6, 0), uniform("w", 0, 3)}, c: once("w"), at: dyads(0.25)},
		{p: bound, l: []api.Load{uniform("w", 0, 3)}, c: combo(part("w", -3)), at: dyads(0.125, 3./512, 8)},
	} {
		a := asked(g)
		if !sameAnswers(a, answers{}) {
			t.Fatalf("%+v: %+v", g, a)
		}
		if len(g.at) > 0 {
			g.at = g.at[1:]
			refused(t, g, [3]api.Errno{api.OK, api.OK, api.ErrShape})
		}
		g.at = append(slices.Clone(g.at), dyads(1, 1)...)
		refused(t, g, [3]api.Errno{api.OK, api.OK, api.ErrShape})
	}
	refused(t, given{p: held, at: dyads(0.5)}, [3]api.Errno{api.OK, api.OK, api.ErrArg})
	// What is not held, and ends nothing, moves by itself.
	refusedAll(t, given{p: made([]api.Joint{joint(3, 4, api.FixX)})}, api.ErrMotion)
}

// P24.1: combinations of no part come to nothing, and nothing moves.
func TestNoPart(t *testing.T) {
	r := rand.New(rand.NewSource(1))
	for range 100 {
		g := anyGiven(t, r, 5, 3)
		g.c = api.Combo{}
		if near(t, g) != api.OK || solve(t, g) != api.OK {
			continue // it is too hard for floats
		}
		exact(t, g)
		a := asked(g)
		for k, x := range a.near {
			if x != 0 || !sameRatio(a.exact[k], api.Ratio{Den: []uint64{1}}) || !holds(a.solve.Sure[k], whole(0)) {
				t.Fatal(g, a)
			}
		}
	}
}

// P24.1, P24.2: what is told is what refine.Until, and bound.Enclose, tell of the same numbers, to the bit; errors likewise.
func TestByWords(t *testing.T) {
	r := rand.New(rand.NewSource(2))
	met := map[api.Errno]int{}
	for _, wide := range []int{0, 3, 10, 20, 30, 40, 60} {
		for range 100 {
			g := anyGiven(t, r, 6, wide)
			e, f := near(t, g), solve(t, g)
			if e != api.OK && e != f {
				t.Fatal(g, e, f)
			}
			met[f]++
		}
	}
	if met[api.OK] < 300 || met[api.ErrPivot] < 50 || met[api.ErrBound] < 50 {
		t.Error(met)
	}
}

// P24.1, P24.2: plans of all kinds, those that move by themselves among them.
func TestAnyPlanByWords(t *testing.T) {
	r := rand.New(rand.NewSource(3))
	met := map[api.Errno]int{}
	for range 500 {
		g := given{p: anyPlan(r, 6, 5)}
		g.l = anyLoads(t, r, g.p, 1+r.Intn(5), 3)
		g.c = anyCombo(r, g.l)
		met[near(t, g)]++
		solve(t, g)
		if !still(g.p) {
			refusedAll(t, g, api.ErrMotion)
		}
	}
	if met[api.OK] < 100 || met[api.ErrMotion] < 50 {
		t.Error(met)
	}
}

// hard is a plan, and loads, of which each step of refinement leaves over a little less than the one ahead, for long.
func hard() given {
	p := made([]api.Joint{joint(-2, 988331, fixAll), joint(2, -3, api.FixY), joint(32102, -772, api.FixY), joint(1, -2, api.FixY), joint(-4, -3, api.FixY)},
		bar(3, 2, 1), bar(0, 4, 1), bar(1, 4, 1.5), bar(2, 1, 1))
	return given{p: p, l: []api.Load{force("w", 1, 1, 0, 0)}, c: once("w")}
}

// P24.1: 8 steps of refinement, no more and no fewer.
func TestSteps(t *testing.T) {
	g := hard()
	m, _ := stiff.Near(g.p)
	b, _ := loads.Near(g.p, g.l, g.c)
	f, e, _ := lower.Factor(m)
	if e != api.OK {
		t.Fatal(e)
	}
	got, e := moved.Near(g.p, g.l, g.c)
	for most := range 12 {
		x, counted, f := refine.Until(m, f, b, most)
		if e != api.OK || f != api.OK || counted != most {
			t.Fatal(e, f, most, counted)
		}
		if slices.EqualFunc(x, got, same) != (most == 8) {
			t.Error(most, x, got)
		}
	}
	near(t, g)
	solve(t, g)
}

// P24.1: ErrPivot of plans without a motion, whose springs are too unlike for floats; Exact tells their moves.
func TestPivot(t *testing.T) {
	push := []api.Load{force("w", 2, 6, 0, 0)}
	for k := range 61 {
		strong := math.Ldexp(1, k)
		g := given{row(1, strong), push, once("w"), dyads(1, strong)}
		exact(t, g)
		switch e := near(t, g); {
		case k < 53 && e != api.OK, k >= 53 && e != api.ErrPivot: // 1 + 2^53 is no float
			t.Error(k, e)
		case e != api.OK:
			x, f := moved.Exact(g.p, g.l, g.c, g.at)
			refused(t, g, [3]api.Errno{e, e, api.OK})
			rest := new(big.Rat).Quo(whole(6), exactly(strong))
			if f != api.OK || !equal(fractions(x), []*big.Rat{whole(6), rest.Add(rest, whole(6))}) {
				t.Error(k, x, f)
			}
		}
	}
}
