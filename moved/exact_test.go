package moved_test

import (
	"math"
	"math/big"
	"math/rand"
	"slices"
	"testing"

	"girder/api"
	"girder/loads"
	"girder/moved"
	"girder/rank"
	"girder/stiff"
)

// P24.3: what is told is what the exact stiffness sends to the exact loads; it is what rank.Solve tells.
func TestExactByWords(t *testing.T) {
	r := rand.New(rand.NewSource(21))
	long := 0
	for _, wide := range []int{0, 3, 20, 60} {
		for range 60 {
			g := anyGiven(t, r, 6, wide)
			a, e := stiff.Exact(g.p, g.at)
			b, f := loads.Exact(g.p, g.l, g.c)
			if e != api.OK || f != api.OK {
				t.Fatal(g, e, f)
			}
			want, e := rank.Solve(a, b)
			got, f := moved.Exact(g.p, g.l, g.c, g.at)
			if e != f || !slices.EqualFunc(got, want, sameRatio) {
				t.Fatalf("%+v: %v, %d, not %v, %d", g, got, f, want, e)
			}
			if e == api.OK {
				exact(t, g)
			} else {
				long++
			}
		}
	}
	if long > 60 {
		t.Error(long)
	}
}

// P24.3: loads count exactly, not as the floats that are told of them.
func TestLoadsExactly(t *testing.T) {
	g := given{p: chapter(), l: []api.Load{force("w", 1, 1, 0, 0), force("v", 1, 0x1p-60, 0, 0), force("u", 1, 0x1p60, 0, 0)}, at: dyads(0.25)}
	g.c = combo(part("w", 4), part("v", 4), part("u", 4))
	want := new(big.Rat).Add(exactly(1), exactly(0x1p-60))
	want.Add(want, exactly(0x1p60))
	x, e := moved.Exact(g.p, g.l, g.c, g.at)
	if e != api.OK || !equal(fractions(x), []*big.Rat{want}) {
		t.Fatal(x, e)
	}
	s, e := moved.Solve(g.p, g.l, g.c)
	if e != api.OK || s.Near[0] != 0x1p60 || !holds(s.Sure[0], want) {
		t.Error(s, e)
	}
	near(t, g)
	solve(t, g)
	// The cases u by itself, and what cancels it.
	g.c = combo(part("u", 4), part("w", 4), part("t", -4))
	g.l = append(g.l, force("t", 1, 0x1p60, 0, 0))
	goes(t, g, whole(1))
	// A sum that no float has, of which nothing is left in floats.
	g.l = []api.Load{uniform("w", 0, 1), uniform("v", 0, 1)}
	g.p = made([]api.Joint{joint(0, 0, fixAll), joint(8, 0, 0)}, beam(0, 1))
	g.at = dyads(0.125, 3./512, 8)
	g.c = combo(part("w", 1+0x1p-52), part("v", -1))
	goes(t, g, whole(0), exactly(-8*0x1p-52), new(big.Rat).Quo(exactly(-4*0x1p-52), whole(3)))
}

// wideDyad is the number 1 + 2^-60 or so, of so many bits, the last of which is 1.
func wideDyad(bits int) api.Dyad {
	mag := make([]uint64, (bits+63)/64)
	mag[0] |= 1
	mag[len(mag)-1] |= 1 << ((bits - 1) % 64)
	return api.Dyad{Mag: mag, Exp: 1 - bits}
}

// P24.3: ErrLong where a row times its width is above 8192, and not below; whatever the loads are.
func TestLong(t *testing.T) {
	// E Area such that the true stiffness is about 1: L is the root of 2.
	strong := 2 * math.Sqrt2
	g := given{p: slanted(strong), l: []api.Load{force("w", 0, 3, 0, 0)}, c: once("w")}
	for _, bits := range []int{2, 60, 64, 65, 1000, 8191, 8192, 8193, 8256, 16000, 16384} {
		at := wideDyad(bits)
		if bits == 2 {
			at = api.Dyad{Mag: []uint64{1}}
		}
		springs, _ := parts(t, g.p)
		if s := springs[0].S; !holds(s, value(at)) {
			t.Fatal(s, at)
		}
		g.at = []api.Dyad{at}
		if bits > 8192 {
			refused(t, g, [3]api.Errno{api.OK, api.OK, api.ErrLong})
			none := given{g.p, nil, combo(), g.at}
			refused(t, none, [3]api.Errno{api.OK, api.OK, api.ErrLong})
			continue
		}
		exact(t, g)
		x, e := moved.Exact(g.p, g.l, g.c, g.at)
		if e != api.OK || new(big.Rat).Mul(fractions(x)[0], value(at)).Cmp(whole(3)) != 0 {
			t.Fatal(bits, x, e)
		}
	}
	// An entry of the stiffness that is too long itself.
	thrice := made([]api.Joint{joint(0, 0, api.FixY), joint(3, 1, fixPoint)}, bar(1, 0, 10*math.Sqrt(10)))
	g.p = thrice
	for _, bits := range []int{8000, 16381, 16384} {
		g.at = []api.Dyad{wideDyad(bits)}
		if bits == 8000 {
			exact(t, g)
			continue
		}
		if _, e := stiff.Exact(g.p, g.at); (e == api.ErrLong) != (bits == 16384) {
			t.Fatal(bits, e)
		}
		refused(t, g, [3]api.Errno{api.OK, api.OK, api.ErrLong})
	}
	// Many rows, whose numbers are far from one another.
	long := row(slices.Concat(slices.Repeat([]float64{0x1p60, 0x1p-60}, 7), []float64{1})...)
	l := []api.Load{force("w", 15, 1, 0, 0)}
	exact(t, given{long, l, once("w"), exactPlan(t, long, lowEnd)})
	wide := frames()
	refused(t, given{wide, nil, combo(), exactPlan(t, wide, lowEnd)}, [3]api.Errno{api.OK, api.OK, api.ErrLong})
}

// frames is a plan of 16 joints, 47 unknowns, whose springs are as unlike as may be.
func frames() api.Plan {
	var joints []api.Joint
	var members []api.Member
	for i := range 16 {
		joints = append(joints, joint(int32(i%4)*(1<<18), int32(i/4), 0))
	}
	joints[0].Fix = fixPoint
	joints[15].Fix = fixPoint
	for i := range 32 {
		m := beam(i%16, (i%16+1+i/16)%16)
		m.E, m.Area, m.I = 1, least, least
		if i%2 == 0 {
			m.E, m.Area, m.I = most, most, most
		}
		members = append(members, m)
	}
	return made(joints, members...)
}

// P24.3: ErrShape, unless there is a number for each spring; ErrArg, unless each is right and lies in its span; ErrShape first.
func TestExactPlan(t *testing.T) {
	r := rand.New(rand.NewSource(22))
	for range 60 {
		g := anyGiven(t, r, 5, 5)
		a := asked(g)
		if a.errors[2] != api.OK {
			continue // it is too long
		}
		of := a.errors
		refusing := func(want api.Errno, at ...api.Dyad) {
			t.Helper()
			of[2] = want
			refused(t, given{g.p, g.l, g.c, at}, of)
		}
		many := len(g.at)
		refusing(api.ErrShape)
		refusing(api.ErrShape, g.at[:many-1]...)
		refusing(api.ErrShape, append(slices.Clone(g.at), g.at[0])...)
		refusing(api.ErrShape, make([]api.Dyad, 145)...)
		springs, _ := parts(t, g.p)
		k := r.Intn(many)
		s := springs[k].S
		for _, bad := range []api.Dyad{
			dyadOf(math.Nextafter(s.Lo, 0)),
			dyadOf(math.Nextafter(s.Hi, math.Inf(1))),
			dyadOf(-s.Lo),
			{},
			{Neg: true},
			{Mag: []uint64{0}},
			{Mag: append(slices.Clone(g.at[k].Mag), 0), Exp: g.at[k].Exp},
			{Mag: []uint64{2}, Exp: g.at[k].Exp},
			{Mag: []uint64{1}, Exp: api.MaxExp + 1},
			{Mag: []uint64{1}, Exp: math.MinInt},
			{Mag: make([]uint64, 300)},
		} {
			at := slices.Clone(g.at)
			at[k] = bad
			refusing(api.ErrArg, at...)
			refusing(api.ErrShape, at[:many-1]...)
		}
	}
}
