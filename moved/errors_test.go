package moved_test

import (
	"math"
	"math/rand"
	"slices"
	"testing"

	"girder/api"
	"girder/bars"
	"girder/moved"
	"girder/stiff"
)

var infinity = float32(math.Inf(1))

// spoilt is p with one change.
func spoilt(p api.Plan, change func(p *api.Plan)) api.Plan {
	p = copied(p)
	change(&p)
	return p
}

// badPlans is plans that bars.Check refuses, each in a way of its own; some of them have a motion, too.
func badPlans() []api.Plan {
	p := made([]api.Joint{joint(0, 0, fixAll), joint(8, 0, 0), joint(8, 6, 0)}, beam(0, 1), beam(1, 2))
	return []api.Plan{
		spoilt(p, func(p *api.Plan) { p.Joints[0].Name = "A" }),
		spoilt(p, func(p *api.Plan) { p.Joints[2].Name = p.Joints[1].Name }),
		spoilt(p, func(p *api.Plan) { p.Joints[1].X = edge + 1 }),
		spoilt(p, func(p *api.Plan) { p.Joints[2].Fix = 8 }),
		spoilt(p, func(p *api.Plan) { p.Joints[2].Y = 0 }),
		spoilt(p, func(p *api.Plan) { p.Joints = make([]api.Joint, 17) }),
		spoilt(p, func(p *api.Plan) { p.Members[0].Kind = 3 }),
		spoilt(p, func(p *api.Plan) { p.Members[1].Name = p.Members[0].Name }),
		spoilt(p, func(p *api.Plan) { p.Members[1].E = noNumber }),
		spoilt(p, func(p *api.Plan) { p.Members[1].B = 3 }),
		spoilt(p, func(p *api.Plan) { p.Members[1].A = -1 }),
		spoilt(p, func(p *api.Plan) { p.Members = make([]api.Member, 49) }),
		spoilt(p, func(p *api.Plan) { p.Joints = nil }),
		spoilt(loose(), func(p *api.Plan) { p.Members[0].I = 1 }),
		spoilt(loose(), func(p *api.Plan) { p.Members[0].B = 0 }),
	}
}

// P24.1 to P24.3: bars.Check's errors come ahead of all others.
func TestPlanComesFirst(t *testing.T) {
	push := force("w", 1, 1, 0, 0)
	for _, p := range badPlans() {
		want, _ := bars.Check(p)
		if want == api.OK {
			t.Fatal(p)
		}
		for _, l := range [][]api.Load{nil, {push}, {force("A", 7, infinity, 0, 0)}, slices.Repeat([]api.Load{push}, 257)} {
			for _, c := range []api.Combo{{}, once("w"), once("q"), combo(part("w", noNumber)), combo(make([]api.Part, 17)...)} {
				for _, at := range [][]api.Dyad{nil, dyads(1), dyads(1, 1, 1, 1, 1, 1)} {
					refusedAll(t, given{p, l, c, at}, want)
				}
			}
		}
	}
}

// plans is one that doesn't move by itself, and some that do: with one motion, with all, with a joint that nothing holds.
func plans() []api.Plan {
	alone := chapter()
	alone.Joints = append(alone.Joints, api.Joint{Name: "far", X: 9})
	free := loose()
	free.Joints[0].Fix = 0
	bent := row(1, 2, 3)
	bent.Joints[2].Fix = 0
	return []api.Plan{chapter(), loose(), alone, free, bent, row(1, 0x1p60), frames()}
}

// P24.1 to P24.3: the errors of loads come ahead of what is said of the plan's motions, its matrix, and of exact plans.
func TestLoadsComeAheadOfMotions(t *testing.T) {
	push := force("w", 1, 1, 0, 0)
	turned := force("w", 1, 0, 0, 1) // nothing bears it where bars alone end
	for _, p := range plans() {
		bad := []api.Load{force("W", 1, 1, 0, 0), force("w", len(p.Joints), 1, 0, 0), force("w", 1, infinity, 0, 0), uniform("w", -1, 1), {Case: "w", Kind: 3}}
		if p.Members[0].Kind == api.Bar {
			bad = append(bad, turned)
		}
		for _, at := range [][]api.Dyad{nil, dyads(0.25), dyads(7, 7, 7), {{Mag: []uint64{2}}}} {
			for _, l := range bad {
				for _, c := range []api.Combo{once("w"), once("q"), combo(part("w", noNumber)), combo(make([]api.Part, 17)...)} {
					refusedAll(t, given{p, []api.Load{push, l}, c, at}, api.ErrLoad)
				}
			}
			refusedAll(t, given{p, slices.Repeat([]api.Load{push}, 257), once("q"), at}, api.ErrLong)
			refusedAll(t, given{p, []api.Load{push}, once("q"), at}, api.ErrCase)
			refusedAll(t, given{p, nil, once("w"), at}, api.ErrCase)
			refusedAll(t, given{p, []api.Load{push}, combo(part("w", 1), part("w", 1)), at}, api.ErrCase)
			refusedAll(t, given{p, []api.Load{push}, combo(part("w", noNumber)), at}, api.ErrArg)
			refusedAll(t, given{p, []api.Load{push}, combo(part("w", 0x1p20+1)), at}, api.ErrArg)
			refusedAll(t, given{p, []api.Load{push}, combo(part("w", noNumber), part("q", 1)), at}, api.ErrArg)
			refusedAll(t, given{p, []api.Load{push}, combo(part("q", noNumber), part("w", noNumber)), at}, api.ErrCase)
			refusedAll(t, given{p, []api.Load{push}, combo(make([]api.Part, 17)...), at}, api.ErrArg)
		}
	}
}

// P24.1 to P24.3: a plan with a motion is refused, whatever loads stand upon it, and whatever its exact plan is: too few numbers, too many, out of their spans, no right ones.
func TestMotionComesAheadOfNumbers(t *testing.T) {
	for _, p := range plans() {
		if still(p) {
			continue
		}
		good := exactPlan(t, p, lowEnd)
		bad := slices.Clone(good)
		bad[0] = api.Dyad{Mag: []uint64{2, 0}}
		far := slices.Clone(good)
		far[0] = dyadOf(-7)
		for _, l := range [][]api.Load{{force("w", 0, 1, 0, 0)}, {force("w", 1, 1, 0, 0)}, {uniform("w", 0, 2)}, {force("w", 0, 0, 0, 0)}} {
			for _, at := range [][]api.Dyad{good, nil, good[1:], append(slices.Clone(good), good...), bad, far} {
				for _, c := range []api.Combo{once("w"), combo(), combo(part("w", 0))} {
					refusedAll(t, given{p, l, c, at}, api.ErrMotion)
				}
			}
		}
	}
}

// P24.1: a motion is found exactly: the bars are as good as one another in floats, though their rows differ.
func TestMotionsAreExact(t *testing.T) {
	// Two bars from held joints to one in the middle, along one line: it moves across. One unit aside and it doesn't.
	far := edge - 1
	for _, aside := range []int32{0, 1} {
		p := made([]api.Joint{joint(-edge, 0, fixPoint), joint(far, 0, fixPoint), joint(0, aside, 0)}, bar(0, 2, 1), bar(2, 1, 1))
		g := given{p: p, l: []api.Load{force("w", 2, 1, 1, 0)}, c: once("w"), at: exactPlan(t, p, lowEnd)}
		if aside == 0 {
			refusedAll(t, g, api.ErrMotion)
			continue
		}
		exact(t, g)
		near(t, g)
		solve(t, g)
	}
	// What holds a motion is a spring that counts for nothing in floats.
	weak := made([]api.Joint{joint(0, 0, fixPoint), joint(1, 0, 0), joint(1, -1, fixPoint), joint(2, 1, fixPoint)}, bar(0, 1, most), bar(2, 1, least))
	g := given{p: weak, l: []api.Load{force("w", 1, 0, 1, 0)}, c: once("w"), at: exactPlan(t, weak, highEnd)}
	near(t, g)
	solve(t, g)
	exact(t, g)
	x, e := moved.Exact(g.p, g.l, g.c, g.at)
	if e != api.OK || !equal(fractions(x)[1:], fractions([]api.Ratio{{Num: []uint64{1 << 60}, Den: []uint64{1}}})) {
		t.Error(x, e)
	}
	// Without it, a joint that goes free.
	weak.Members = weak.Members[:1]
	refusedAll(t, given{p: weak, l: g.l, c: g.c, at: g.at[:1]}, api.ErrMotion)
}

// P24.3: what is wrong with an exact plan comes ahead of what is too long.
func TestNumbersComeAheadOfLength(t *testing.T) {
	p := frames()
	good := exactPlan(t, p, lowEnd)
	refusing := func(want api.Errno, at []api.Dyad) {
		t.Helper()
		if x, e := moved.Exact(p, nil, combo(), at); e != want || len(x) > 0 {
			t.Fatal(e, want, x)
		}
	}
	if _, e := stiff.Exact(p, good); e != api.OK {
		t.Fatal(e)
	}
	refusing(api.ErrLong, good)
	refusing(api.ErrShape, good[1:])
	refusing(api.ErrShape, append(slices.Clone(good), dyadOf(noNumber)))
	for _, k := range []int{0, 1, len(good) / 2, len(good) - 1} {
		at := slices.Clone(good)
		at[k] = dyadOf(-1)
		refusing(api.ErrArg, at)
	}
}

// R1, R2: any arguments, and nothing beside an error.
func TestAnything(t *testing.T) {
	r := rand.New(rand.NewSource(23))
	names := []string{"", "a", "b", "w", "A", "\xff"}
	for range 2000 {
		var g given
		for range r.Intn(5) {
			g.p.Joints = append(g.p.Joints, api.Joint{Name: name(len(g.p.Joints)), X: int32(r.Intn(5)), Y: int32(r.Intn(5)), Fix: uint8(r.Intn(9))})
		}
		for range r.Intn(4) {
			m := api.Member{Name: name(len(g.p.Members)), Kind: api.MemberKind(1 + r.Intn(2)), A: r.Intn(4), B: r.Intn(5) - 1, E: 1, Area: 1}
			if m.Kind == api.Beam {
				m.I = 1
			}
			g.p.Members = append(g.p.Members, m)
		}
		for range r.Intn(3) {
			g.l = append(g.l, api.Load{Case: names[r.Intn(4)], Kind: api.LoadKind(1 + r.Intn(2)), At: r.Intn(4), Y: float32(r.Intn(3))})
		}
		for range r.Intn(3) {
			g.c.Parts = append(g.c.Parts, part(names[r.Intn(len(names))], []float64{1, noNumber, 0x1p21}[r.Intn(3)]))
		}
		for range r.Intn(4) {
			g.at = append(g.at, api.Dyad{Neg: r.Intn(4) == 0, Mag: make([]uint64, r.Intn(3)), Exp: int(r.Uint64())})
		}
		refused(t, g, asked(g).errors)
	}
}
