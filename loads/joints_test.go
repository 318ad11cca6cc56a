package loads_test

import (
	"math"
	"math/big"
	"math/rand"
	"slices"
	"testing"

	"girder/api"
	"girder/loads"
)

// The chapter's example 1.
func TestExampleOfForceAndUniform(t *testing.T) {
	p := chapter()
	w := []api.Load{force("w", 1, 1, -2, 3)}
	tells(t, p, w, combo(part("w", 0.5)), bring(0, 0, 0), brought{over(1, 2), whole(-1), over(3, 2)}, bring(0, 0, 0))
	x, e := loads.Exact(p, w, combo(part("w", 0.5)))
	zero := api.Ratio{Den: []uint64{1}}
	want := []api.Ratio{{Num: []uint64{1}, Den: []uint64{2}}, {Neg: true, Num: []uint64{1}, Den: []uint64{1}}, {Num: []uint64{3}, Den: []uint64{2}}, zero, zero, zero}
	if e != api.OK || !slices.EqualFunc(x, want, sameRatio) {
		t.Error(x, e)
	}
	tells(t, p, []api.Load{uniform("s", 0, 3)}, once("s"), bring(0, -12, -16), bring(0, -12, 16), bring(0, 0, 0))
	tells(t, p, []api.Load{uniform("s", 1, 3)}, once("s"), bring(0, 0, 0), bring(0, 0, 0), bring(0, 0, 0))
}

// The chapter's examples 2 and 3.
func TestExamplesOfHinges(t *testing.T) {
	p := chapter()
	p.Members[0].HingeB = true
	tells(t, p, []api.Load{uniform("s", 0, 3)}, once("s"), bring(0, -15, -24), bring(0, -9, 0), bring(0, 0, 0))
	p = lone(3, 4, beam(0, 1, false, false))
	tells(t, p, []api.Load{uniform("s", 0, 1)}, once("s"), brought{whole(0), over(-3, 2), over(-3, 4)}, brought{whole(0), over(-3, 2), over(3, 4)})
	p.Members[0].HingeB = true
	tells(t, p, []api.Load{uniform("s", 0, 1)}, once("s"), brought{over(9, 50), over(-327, 200), over(-9, 8)}, brought{over(-9, 50), over(-273, 200), whole(0)})
}

// P23.2: a uniform load upon each kind of member, by hand; led from either joint.
func TestUniformByHand(t *testing.T) {
	for _, x := range []struct {
		dx, dy int32
		y      float32
		hinges [2]bool // at the held joint, at the other one
		a, b   brought
	}{
		// Level: Q 24, M 192.
		{8, 0, 3, [2]bool{false, false}, bring(0, -12, -16), bring(0, -12, 16)},
		{8, 0, 3, [2]bool{false, true}, bring(0, -15, -24), bring(0, -9, 0)},
		{8, 0, 3, [2]bool{true, false}, bring(0, -9, 0), bring(0, -15, 24)},
		{8, 0, 3, [2]bool{true, true}, bring(0, -12, 0), bring(0, -12, 0)},
		// Towards the left: M is below 0.
		{-8, 0, 3, [2]bool{false, false}, bring(0, -12, 16), bring(0, -12, -16)},
		{-8, 0, 3, [2]bool{false, true}, bring(0, -15, 24), bring(0, -9, 0)},
		{-8, 0, 3, [2]bool{true, false}, bring(0, -9, 0), bring(0, -15, -24)},
		{-8, 0, 3, [2]bool{true, true}, bring(0, -12, 0), bring(0, -12, 0)},
		// Upwards by a load below 0.
		{8, 0, -3, [2]bool{false, false}, bring(0, 12, 16), bring(0, 12, -16)},
		{8, 0, -3, [2]bool{true, false}, bring(0, 9, 0), bring(0, 15, -24)},
		// Upright: nothing.
		{0, 5, 3, [2]bool{false, false}, bring(0, 0, 0), bring(0, 0, 0)},
		{0, -5, 3, [2]bool{false, true}, bring(0, 0, 0), bring(0, 0, 0)},
		{0, 5, -3, [2]bool{true, false}, bring(0, 0, 0), bring(0, 0, 0)},
		{0, 5, 3, [2]bool{true, true}, bring(0, 0, 0), bring(0, 0, 0)},
		// Leaning, each way: Q 2400, M or -M 7200, T (1152, -864) or the other way along x.
		{3, 4, 800, [2]bool{false, false}, bring(0, -1200, -600), bring(0, -1200, 600)},
		{3, 4, 800, [2]bool{false, true}, bring(144, -1308, -900), bring(-144, -1092, 0)},
		{3, 4, 800, [2]bool{true, false}, bring(-144, -1092, 0), bring(144, -1308, 900)},
		{3, 4, 800, [2]bool{true, true}, bring(0, -1200, 0), bring(0, -1200, 0)},
		{3, -4, 800, [2]bool{false, true}, bring(-144, -1308, -900), bring(144, -1092, 0)},
		{3, -4, 800, [2]bool{true, false}, bring(144, -1092, 0), bring(-144, -1308, 900)},
		{-3, 4, 800, [2]bool{false, false}, bring(0, -1200, 600), bring(0, -1200, -600)},
		{-3, 4, 800, [2]bool{false, true}, bring(-144, -1308, 900), bring(144, -1092, 0)},
		{-3, -4, 800, [2]bool{false, true}, bring(144, -1308, 900), bring(-144, -1092, 0)},
		{-3, -4, 800, [2]bool{true, false}, bring(-144, -1092, 0), bring(144, -1308, -900)},
		{4, -3, -800, [2]bool{false, false}, brought{whole(0), whole(1600), over(3200, 3)}, brought{whole(0), whole(1600), over(-3200, 3)}},
	} {
		for _, m := range []api.Member{beam(0, 1, x.hinges[0], x.hinges[1]), beam(1, 0, x.hinges[1], x.hinges[0])} {
			tells(t, lone(x.dx, x.dy, m), []api.Load{uniform("s", 0, x.y)}, once("s"), x.a, x.b)
		}
		if x.hinges == [2]bool{true, true} {
			for _, m := range []api.Member{bar(0, 1), bar(1, 0)} {
				tells(t, lone(x.dx, x.dy, m), []api.Load{uniform("s", 0, x.y)}, once("s"), x.a, x.b)
			}
		}
	}
}

// P23.2: a uniform load upon the longest members, each way and with each row of hinges, of the greatest and the least size.
func TestUniformUponTheLongest(t *testing.T) {
	for _, x := range [][4]int32{{-edge, -edge, edge, edge}, {edge, -edge, -edge, edge}, {-edge, edge, edge, -edge}, {-edge, 0, edge, 1}, {0, edge, 1, -edge}, {-edge, 7, edge, 7}, {edge - 1, -edge, edge, edge}} {
		for hinges := range 4 {
			p := made([]api.Joint{joint(x[0], x[1], fixAll), joint(x[2], x[3], 0)}, beam(0, 1, hinges&1 > 0, hinges&2 > 0))
			for _, y := range []float32{mostLoad, -mostLoad, tiny, -tiny, 0x1.fffffep59, 1} {
				for _, factor := range []float64{1, mostFactor, -mostFactor, 0x1p-1074, math.Nextafter(mostFactor, 0)} {
					checked(t, p, []api.Load{uniform("s", 0, y)}, combo(part("s", factor)))
				}
			}
		}
	}
}

// P23.2: what is held, what is no unknown: Joints tells of all, the others of unknowns alone.
func TestHeld(t *testing.T) {
	l := []api.Load{force("w", 1, 5, -7, 11), uniform("w", 0, 3)}
	want := []brought{bring(0, -12, -16), bring(5, -19, 27)}
	for fix := range uint8(64) {
		p := made([]api.Joint{joint(0, 0, fix&7), joint(8, 0, fix>>3)}, beam(0, 1, false, false))
		tells(t, p, l, once("w"), want...)
		n, e := loads.Near(p, l, once("w"))
		var free []float64
		for k, x := range []float64{0, -12, -16, 5, -19, 27} {
			if fix>>k&1 == 0 {
				free = append(free, x)
			}
		}
		if e != api.OK || !slices.EqualFunc(n, free, same) {
			t.Fatal(fix, n, free)
		}
	}
	// A turn that is held though nothing else bears it.
	p := made([]api.Joint{joint(0, 0, api.FixTurn), joint(8, 0, 0)}, bar(0, 1))
	tells(t, p, []api.Load{force("w", 0, 1, 2, 3), force("w", 1, 4, 5, 0)}, once("w"), bring(1, 2, 3), bring(4, 5, 0))
	// No unknown at all, and no joint at all.
	p = made([]api.Joint{joint(0, 0, fixAll), joint(8, 0, fixAll)}, beam(0, 1, false, false))
	tells(t, p, l, once("w"), want...)
	tells(t, api.Plan{}, nil, combo())
	for _, x := range []answers{asked(p, l, once("w")), asked(api.Plan{}, nil, combo())} {
		if len(x.exact)+len(x.sure)+len(x.near) != 0 {
			t.Error(x)
		}
	}
}

// P23.2: several loads at one joint and upon one member, of one case and of several, of both kinds.
func TestManyLoads(t *testing.T) {
	p := chapter()
	l := []api.Load{
		force("w", 1, 1, -2, 3),
		uniform("s", 0, 3),
		force("w", 1, 10, 20, 30),
		force("v", 2, 7, 0, 0),
		uniform("w", 0, 1.5),
		force("s", 0, -1, 0, 2),
		uniform("s", 0, -1.5),
		uniform("s", 1, 1000),
		force("u", 1, 0, 0, 0),
	}
	none := bring(0, 0, 0)
	tells(t, p, l, combo(), none, none, none)
	tells(t, p, l, once("u"), none, none, none)
	tells(t, p, l, once("w"), bring(0, -6, -8), bring(11, 12, 41), none)
	tells(t, p, l, once("s"), bring(-1, -6, -6), bring(0, -6, 8), none)
	tells(t, p, l, once("v"), none, none, bring(7, 0, 0))
	tells(t, p, l, combo(part("v", -2), part("w", 1), part("s", 10)), bring(-10, -66, -68), bring(11, -48, 121), bring(-14, 0, 0))
}

// parts is so many parts, of cases each with a load, and these loads.
func parts(n int) ([]api.Part, []api.Load) {
	var c []api.Part
	var l []api.Load
	for i := range n {
		c = append(c, part(caseName(i), float64(i+1)))
		l = append(l, force(caseName(i), 1, 1, float32(-i), 2))
	}
	return c, l
}

// P23.2: no part, as many as may be, and more; that counts ahead of what each of them is, and behind what loads are.
func TestHowManyParts(t *testing.T) {
	p := chapter()
	c, l := parts(20)
	none := bring(0, 0, 0)
	tells(t, p, nil, combo(), none, none, none)
	tells(t, p, nil, api.Combo{Parts: []api.Part{}}, none, none, none)
	tells(t, p, l, combo(), none, none, none)
	// 1 to 16 in all: 136; i (i + 1) for i from 0 to 15: 1360.
	tells(t, p, l, combo(c[:16]...), none, bring(136, -1360, 272), none)
	checked(t, p, l, combo(c[:15]...))
	for n := 17; n <= 20; n++ {
		refused(t, p, l, combo(c[:n]...), api.ErrArg)
		refused(t, p, nil, combo(c[:n]...), api.ErrArg)
	}
	refused(t, p, l, combo(slices.Repeat(c[:1], 17)...), api.ErrArg)
	refused(t, p, l, combo(slices.Repeat(c[:1], 16)...), api.ErrCase)
	refused(t, p, l, combo(make([]api.Part, 5000)...), api.ErrArg)
	l[3].At = 3
	refused(t, p, l, combo(c[:17]...), api.ErrLoad)
}

// P23.2: a part of no load's Case, and two of one.
func TestCaseOfPart(t *testing.T) {
	p := chapter()
	l := []api.Load{force("w", 1, 1, 0, 0), force("s", 1, 0, 1, 0), force("ww", 2, 1, 0, 0)}
	for _, c := range []string{"", "q", "W", "w ", "www", "sw", "\x00", "abcdefghi"} {
		refused(t, p, l, once(c), api.ErrCase)
		refused(t, p, l, combo(part("w", 1), part(c, 1)), api.ErrCase)
		refused(t, p, l, combo(part(c, 1), part("w", 1)), api.ErrCase)
		refused(t, p, nil, once(c), api.ErrCase)
	}
	refused(t, p, nil, once("w"), api.ErrCase)
	for _, c := range [][]api.Part{
		{part("w", 1), part("w", 1)},
		{part("w", 1), part("w", -1)},
		{part("w", 0), part("s", 1), part("w", 0)},
		{part("s", 1), part("w", 2), part("ww", 1), part("w", 2)},
	} {
		refused(t, p, l, combo(c...), api.ErrCase)
	}
	checked(t, p, l, combo(part("ww", 1), part("s", 1), part("w", 1)))
}

// wrongFactors is such as may not be.
func wrongFactors() []float64 {
	next := math.Nextafter(mostFactor, math.Inf(1))
	return []float64{math.NaN(), math.Float64frombits(0xFFF0000000000001), math.Inf(1), math.Inf(-1), next, -next, mostFactor + 1, -mostFactor - 1, math.MaxFloat64, -math.MaxFloat64}
}

// P23.2: Factors that may be, at the edges too, and such as may not.
func TestFactors(t *testing.T) {
	p := chapter()
	l := []api.Load{force("w", 1, 1, -2, 3), uniform("s", 0, 3)}
	for _, x := range []float64{1, -1, 0.1, -1.35, mostFactor, -mostFactor, math.Nextafter(mostFactor, 0), 0x1p-1074, -0x1p-1074, 0x1p-1022, math.Pi} {
		factor := exactly(x)
		tells(t, p, l, combo(part("w", x)), bring(0, 0, 0), scaled(factor, bring(1, -2, 3)), bring(0, 0, 0))
		tells(t, p, l, combo(part("s", 1), part("w", x)), bring(0, -12, -16), plus(bring(0, -12, 16), scaled(factor, bring(1, -2, 3))), bring(0, 0, 0))
	}
	for _, x := range wrongFactors() {
		refused(t, p, l, combo(part("w", x)), api.ErrArg)
		refused(t, p, l, combo(part("s", 1), part("w", x)), api.ErrArg)
		refused(t, p, l, combo(part("w", x), part("s", 1)), api.ErrArg)
	}
}

// P23.2: a part of Factor 0, of either sign, brings nothing; its Case counts all the same.
func TestFactorNought(t *testing.T) {
	p := chapter()
	l := []api.Load{force("w", 1, 1, -2, 3), uniform("s", 0, 3), force("s", 2, -1, -1, -1)}
	none := bring(0, 0, 0)
	for _, x := range []float64{0, math.Copysign(0, -1)} {
		tells(t, p, l, combo(part("w", x)), none, none, none)
		tells(t, p, l, combo(part("s", x)), none, none, none)
		tells(t, p, l, combo(part("s", x), part("w", 1)), none, bring(1, -2, 3), none)
		refused(t, p, l, combo(part("q", x)), api.ErrCase)
		refused(t, p, l, combo(part("w", x), part("w", 1)), api.ErrCase)
	}
}

// P23.2: which of several errors comes first, part by part.
func TestOrderOfErrors(t *testing.T) {
	p := chapter()
	l := []api.Load{force("w", 1, 1, 0, 0), force("s", 1, 0, 1, 0)}
	for _, bad := range wrongFactors() {
		refused(t, p, l, combo(part("q", bad)), api.ErrCase)
		refused(t, p, l, combo(part("w", bad), part("q", 1)), api.ErrArg)
		refused(t, p, l, combo(part("q", 1), part("w", bad)), api.ErrCase)
		refused(t, p, l, combo(part("w", 1), part("w", bad)), api.ErrCase)
		refused(t, p, l, combo(part("w", bad), part("w", 1)), api.ErrArg)
		refused(t, p, l, combo(part("w", 1), part("s", bad), part("w", 1)), api.ErrArg)
		refused(t, p, l, combo(part("w", 1), part("w", 1), part("s", bad)), api.ErrCase)
		refused(t, p, l, combo(append([]api.Part{part("q", bad)}, make([]api.Part, 16)...)...), api.ErrArg)
		refused(t, p, append(l, force("w", 3, 0, 0, 0)), combo(part("w", bad), part("q", 1)), api.ErrLoad)
		refused(t, p, append(l, make([]api.Load, 255)...), combo(part("w", bad), part("q", 1)), api.ErrLong)
		held := copied(p)
		held.Joints[0].Fix = 8
		refused(t, held, l, combo(part("w", bad)), api.ErrJoint)
	}
}

// P23.2: many rows of parts, with faults or without, against the words.
func TestPartsByWords(t *testing.T) {
	r := rand.New(rand.NewSource(11))
	p := chapter()
	met := map[api.Errno]int{}
	for range 2000 {
		l := anyLoads(t, r, p, 1+r.Intn(12), 10)
		all := loads.Cases(l)
		var c api.Combo
		for range r.Intn(4) * r.Intn(7) {
			x := part(all[r.Intn(len(all))], anyFactor(r))
			switch r.Intn(12) {
			case 0:
				x.Case = caseName(r.Intn(14))
			case 1:
				x.Factor = wrongFactors()[r.Intn(10)]
			}
			if r.Intn(3) == 0 || !slices.ContainsFunc(c.Parts, func(y api.Part) bool { return y.Case == x.Case }) {
				c.Parts = append(c.Parts, x)
			}
		}
		want := partsByWords(l, c.Parts)
		met[want]++
		if want == api.OK {
			checked(t, p, l, c)
		} else {
			refused(t, p, l, c, want)
		}
	}
	if met[api.OK] < 300 || met[api.ErrCase] < 300 || met[api.ErrArg] < 100 {
		t.Error(met)
	}
}

// partsByWords is the first error of parts.
func partsByWords(l []api.Load, c []api.Part) api.Errno {
	if len(c) > 16 {
		return api.ErrArg
	}
	for i, x := range c {
		loaded := slices.ContainsFunc(l, func(y api.Load) bool { return y.Case == x.Case })
		for _, y := range c[:i] {
			loaded = loaded && y.Case != x.Case
		}
		if !loaded {
			return api.ErrCase
		}
		if !(x.Factor >= -1048576 && x.Factor <= 1048576) {
			return api.ErrArg
		}
	}
	return api.OK
}

// P23.2: a combination's Name plays no part, whatever it is.
func TestNamePlaysNoPart(t *testing.T) {
	p := chapter()
	l := []api.Load{force("w", 1, 1, -2, 3)}
	want := asked(p, l, once("w"))
	for _, c := range []string{"", "w", "c", "A", "1", "abcdefghijk", "\x00\xff", "é"} {
		for _, parts := range [][]api.Part{{part("w", 1)}, {part("q", 1)}, {part("w", math.NaN())}} {
			got := asked(p, l, api.Combo{Name: c, Parts: parts})
			if !sameAnswers(got, asked(p, l, api.Combo{Parts: parts})) {
				t.Error(c, got)
			}
		}
		if got := asked(p, l, api.Combo{Name: c, Parts: []api.Part{part("w", 1)}}); !sameAnswers(got, want) {
			t.Error(c, got)
		}
	}
}

// P23.2: floats count exactly: nothing is lost of what is little beside what is great.
func TestNothingIsLost(t *testing.T) {
	p := chapter()
	great, little := counted(mostLoad), counted(tiny)
	l := []api.Load{force("w", 1, mostLoad, mostLoad, 0.1), force("w", 1, tiny, -tiny, 0.2), force("w", 2, 0.1, 0, -0.3), force("v", 1, -mostLoad, mostLoad, 0)}
	none := bring(0, 0, 0)
	at := brought{sum(great, little), sum(great, new(big.Rat).Neg(little)), sum(counted(0.1), counted(0.2))}
	last := brought{counted(0.1), whole(0), counted(-0.3)}
	tells(t, p, l, once("w"), none, at, last)
	tells(t, p, l, combo(part("w", 1), part("v", 1)), none, brought{little, sum(great, great, new(big.Rat).Neg(little)), at[2]}, last)
	tells(t, p, l, combo(part("v", mostFactor), part("w", 0x1p-1074)), none,
		plus(scaled(exactly(mostFactor), brought{new(big.Rat).Neg(great), great, whole(0)}), scaled(exactly(0x1p-1074), at)), scaled(exactly(0x1p-1074), last))
	// 0.1 as a narrow float and 0.1 as a factor are unlike numbers.
	tells(t, p, []api.Load{force("w", 2, 0.1, 0, 0)}, combo(part("w", 0.1)), none, none,
		brought{times(over(13421773, 1<<27), over(3602879701896397, 1<<55)), whole(0), whole(0)})
	// What cancels out is 0.
	tells(t, p, []api.Load{force("w", 2, 0.1, -0.7, tiny), force("w", 2, -0.1, 0.7, -tiny)}, once("w"), none, none, none)
	tells(t, p, []api.Load{uniform("w", 0, 0.1), uniform("v", 0, -0.1)}, combo(part("w", 0.3), part("v", 0.3)), none, none, none)
}

// P23.2, P23.3: many plans, loads and combinations, against the words, to the bit.
func TestByWords(t *testing.T) {
	r := rand.New(rand.NewSource(12))
	for range 700 {
		p := anyPlan(r, 8, 12)
		l := anyLoads(t, r, p, r.Intn(30), 6)
		checked(t, p, l, anyCombo(r, l))
	}
}

// greatest is a plan of 16 joints far apart and 48 members, each with a hinge at one end, so that numbers come out as long as they may.
func greatest(r *rand.Rand) api.Plan {
	var joints []api.Joint
	for range 16 {
		joints = append(joints, joint(int32(r.Intn(2<<20))-edge, int32(r.Intn(2<<20))-edge, 0))
	}
	var members []api.Member
	for i := range 48 {
		members = append(members, beam(i%16, (i%16+1+i/16)%16, i%2 == 0, i%2 > 0))
	}
	for i := range 15 { // all others lead to one joint
		members[i] = beam(i+1, 0, false, true)
	}
	return made(joints, members...)
}

// P23.2, P23.3: as much as may be of all, with the longest numbers: no ratio is too long.
func TestTheGreatest(t *testing.T) {
	r := rand.New(rand.NewSource(13))
	for i := range 4 {
		p := greatest(r)
		l := make([]api.Load, 256)
		for k := range l {
			l[k] = uniform(caseName(k%16), k%48, math.Float32frombits(uint32(1+r.Intn(1<<23))))
			if (k+i)%2 == 0 {
				l[k].Y = math.Nextafter32(mostLoad, 0)
			}
			if k%48 >= 15 && k%5 == 0 {
				l[k] = force(caseName(k%16), 0, anyNumber(r), anyNumber(r), anyNumber(r))
			}
		}
		var c api.Combo
		for k := range 16 {
			factor := math.Nextafter(mostFactor, 0)
			if (k+i)%2 == 0 {
				factor = 0x1p-1074 * float64(1+r.Intn(1<<30))
			}
			c.Parts = append(c.Parts, part(caseName(k), factor))
		}
		for k := range p.Joints { // a force's Turn needs something that bears it
			p.Joints[k].Fix = api.FixTurn * uint8(k%2^1)
		}
		checked(t, p, l, c)
	}
}
