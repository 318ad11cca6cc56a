package motion_test

import (
	"math"
	"math/big"
	"math/rand"
	"slices"
	"testing"

	"girder/api"
	"girder/bars"
	"girder/motion"
	"girder/ratio"
)

// lone is the chapter's bar from a, held in x and y, to b.
func lone(fix uint8) api.Plan {
	return made([]api.Joint{joint(0, 0, fixPoint), joint(4, 3, fix)}, bar(0, 1))
}

// square is the chapter's square of four bars, with more bars.
func square(more ...api.Member) api.Plan {
	l := []api.Joint{joint(0, 0, fixPoint), joint(4, 0, api.FixY), joint(4, 4, 0), joint(0, 4, 0)}
	return made(l, append([]api.Member{bar(0, 1), bar(1, 2), bar(2, 3), bar(3, 0)}, more...)...)
}

// triangle is DOC.md's plan T, with ab or without it.
func triangle(withBase bool) api.Plan {
	l := []api.Joint{joint(0, 0, fixPoint), joint(4000, 0, api.FixY), joint(2000, 1500, 0)}
	if withBase {
		return made(l, bar(0, 2), bar(1, 2), bar(0, 1))
	}
	return made(l, bar(0, 2), bar(1, 2))
}

// The chapter's example 1.
func TestExampleOfABar(t *testing.T) {
	rows(t, lone(0), 2, []int64{4, 3})
	moves(t, lone(0), 0, parsed(t, "-3/4 1"))
	l, _ := motion.Motions(lone(0))
	move(t, lone(0), l[0].By, 1)
	rows(t, lone(api.FixY), 1, []int64{4})
	moves(t, lone(api.FixY), 0)
	rows(t, lone(fixPoint), 0, nil)
	moves(t, lone(fixPoint), 1)
}

// The chapter's example 2.
func TestExampleOfASquare(t *testing.T) {
	rows(t, square(), 5, []int64{4, 0, 0, 0, 0}, []int64{0, 0, 4, 0, 0}, []int64{0, 4, 0, -4, 0}, []int64{0, 0, 0, 0, 4})
	moves(t, square(), 0, parsed(t, "0 1 0 1 0"))
	moves(t, square(bar(0, 2)), 0)
	moves(t, square(bar(1, 3)), 0)
	moves(t, square(bar(0, 2), bar(1, 3)), 1)
	move(t, square(), ints(0, 1, 0, 1, 0), 2, 3)
}

// The chapter's example 3.
func TestExampleOfABeam(t *testing.T) {
	p := made([]api.Joint{joint(0, 0, 0), joint(3, 4, 0)}, beam(0, 1))
	counts(t, p, 3, 0)
	checked(t, p)
}

// DOC.md's example 7.
func TestExampleOfTheWhole(t *testing.T) {
	moves(t, triangle(false), 0, parsed(t, "-3/2 -3/4 1"))
	moves(t, triangle(true), 0)
}

// P21.2: plans of no joint, of no member, of springs without unknowns, of unknowns without springs.
func TestMotionsOfNothing(t *testing.T) {
	moves(t, api.Plan{}, 0)
	moves(t, api.Plan{Joints: []api.Joint{}, Members: []api.Member{}}, 0)
	moves(t, made([]api.Joint{joint(5, 5, 0)}), 0, whole(1, 0), whole(0, 1))
	moves(t, made([]api.Joint{joint(5, 5, api.FixX)}), 0, whole(1))
	moves(t, made([]api.Joint{joint(5, 5, api.FixTurn)}), 0, whole(1, 0), whole(0, 1))
	moves(t, made([]api.Joint{joint(5, 5, fixPoint)}), 0)
	for n := range 17 {
		p := made(anyJoints(rand.New(rand.NewSource(int64(n))), n, 2))
		checked(t, p)
		counts(t, loose(p), 2*n, 0)
	}
	two := []api.Joint{joint(0, 0, fixAll), joint(3, 4, fixAll)}
	moves(t, made(two, beam(0, 1)), 3)
	moves(t, made(two, beam(0, 1), hinged(0, 1, true, false), hinged(0, 1, true, true), bar(1, 0)), 7)
}

// P21.2: a joint that no member meets moves by itself, ahead of others and behind them.
func TestJointsThatNoMemberMeets(t *testing.T) {
	l := []api.Joint{joint(9, 9, 0), joint(0, 0, fixPoint), joint(4, 3, api.FixY), joint(8, 9, api.FixX)}
	p := made(l, bar(1, 2))
	rows(t, p, 4, []int64{0, 0, 4, 0})
	moves(t, p, 0, whole(1, 0, 0, 0), whole(0, 1, 0, 0), whole(0, 0, 0, 1))
	l[0].Fix, l[3].Fix = fixPoint, fixAll
	moves(t, made(l, bar(1, 2)), 0)
}

// P21.2: beams with their ends held in every way, with hinges where they may be.
func TestOneBeamHeldInEveryWay(t *testing.T) {
	for fix := range 64 {
		for hinges := range 4 {
			m := hinged(0, 1, hinges&1 > 0, hinges&2 > 0)
			checked(t, made([]api.Joint{joint(0, 0, uint8(fix&7)), joint(3, 4, uint8(fix>>3))}, m))
		}
	}
	wall := func(m api.Member) api.Plan {
		return made([]api.Joint{joint(0, 0, fixAll), joint(3, 4, 0)}, m)
	}
	moves(t, wall(beam(0, 1)), 0)
	moves(t, wall(hinged(0, 1, false, true)), 0)                            // nothing takes hold of b's turn
	moves(t, wall(hinged(0, 1, true, false)), 0, parsed(t, "-4 3 1"))       // it turns about a
	moves(t, wall(hinged(0, 1, true, true)), 0, parsed(t, "-4/3 1"))        // likewise, as a bar
	moves(t, held(wall(beam(0, 1)), 0, fixPoint), 0, parsed(t, "1 -4 3 1")) // it turns about a, which turns with it
	moves(t, held(wall(beam(0, 1)), 1, api.FixX+api.FixTurn), 2)            // two more than are needed
	moves(t, held(held(wall(beam(0, 1)), 1, fixPoint), 0, fixPoint), 1)     // both turns are borne, along it nothing moves
	moves(t, held(wall(beam(0, 1)), 0, api.FixTurn), 0, whole(1, 0, 1, 0, 0), whole(0, 1, 0, 1, 0))
}

// P21.2: three bars at one joint, in one line or not, and bars that stand in one line between held ones.
func TestBarsInOneLine(t *testing.T) {
	l := []api.Joint{joint(0, 0, fixPoint), joint(2, 0, 0), joint(4, 0, fixPoint)}
	moves(t, made(l, bar(0, 1), bar(1, 2)), 1, whole(0, 1)) // a mechanism, and a spare spring all the same
	moves(t, made(l, beam(0, 1), bar(1, 2)), 1, whole(1, 0, 2, 1))
	moves(t, made(l, beam(0, 1), beam(1, 2)), 1)
	moves(t, made(l, hinged(0, 1, false, true), hinged(1, 2, true, false)), 1, whole(-1, 0, -2, 1))
	star := []api.Joint{joint(0, 0, 0), joint(5, 0, fixPoint), joint(0, 5, fixPoint), joint(3, 3, fixPoint)}
	moves(t, made(star, bar(0, 1)), 0, whole(0, 1))
	moves(t, made(star, bar(0, 1), bar(0, 2)), 0)
	moves(t, made(star, bar(0, 1), bar(0, 2), bar(3, 0)), 1)
	moves(t, made(star, bar(0, 1), bar(0, 1), bar(1, 0)), 2, whole(0, 1))
}

// P21.2: whether a plan moves may hang on the last bit of the greatest coordinate.
func TestNearlyInOneLine(t *testing.T) {
	for _, x := range []int32{-1, 0, 1} {
		l := []api.Joint{joint(-edge, -edge, fixPoint), joint(x, 0, 0), joint(edge, edge, fixPoint)}
		if x == 0 {
			moves(t, made(l, bar(0, 1), bar(1, 2)), 1, whole(-1, 1))
		} else {
			moves(t, made(l, bar(0, 1), bar(1, 2)), 0)
		}
	}
	// Three bars whose lines meet in one point let the beam turn about it; a step aside, they don't.
	for _, y := range []int32{edge - 1, edge} {
		l := []api.Joint{joint(-edge, 0, 0), joint(edge, 0, 0), joint(-edge+1, y, fixPoint), joint(0, edge, fixPoint), joint(edge-1, edge-1, fixPoint)}
		p := made(l, beam(0, 1), bar(0, 2), bar(0, 3), bar(1, 4))
		checked(t, p)
	}
	l := []api.Joint{joint(-4, 0, 0), joint(0, 0, 0), joint(4, 0, 0), joint(-2, 2, fixPoint), joint(0, 2, fixPoint), joint(2, 2, fixPoint)}
	p := made(l, beam(0, 1), beam(1, 2), bar(0, 3), bar(1, 4), bar(2, 5))
	counts(t, p, 1, 1)
	checked(t, p)
	p.Joints[4].X = 1
	counts(t, p, 0, 0)
	checked(t, p)
}

// P21.2, P4: mechanisms, plans that just stand and plans with springs to spare, many of each, against fractions.
func TestMotionsByWords(t *testing.T) {
	r := rand.New(rand.NewSource(5))
	told := map[[2]bool]int{}
	for range 1200 {
		p := anyPlan(r, 7, r.Intn(14))
		checked(t, p)
		l, spare := byWords(p)
		told[[2]bool{len(l) > 0, spare > 0}]++
	}
	for _, kind := range [][2]bool{{false, true}, {true, false}, {true, true}} {
		if told[kind] < 100 {
			t.Error(told)
		}
	}
}

// standing is a plan that just stands: each joint behind the first one, all of which is held, is borne by a beam, or by two bars that are not in one line.
func standing(r *rand.Rand, joints int) api.Plan {
	l := anyJoints(r, joints, math.MaxInt32)
	for i := range l {
		l[i].Fix = 0
	}
	l[0].Fix = fixAll
	turning := []int{0} // the joints whose turns are borne
	var members []api.Member
	for i := 1; i < joints; i++ {
		a, b := r.Intn(i), r.Intn(i)
		ax, ay := int64(l[a].X)-int64(l[i].X), int64(l[a].Y)-int64(l[i].Y)
		bx, by := int64(l[b].X)-int64(l[i].X), int64(l[b].Y)-int64(l[i].Y)
		if ax*by != ay*bx {
			members = append(members, bar(a, i), bar(i, b))
			continue
		}
		members = append(members, beam(turning[r.Intn(len(turning))], i))
		turning = append(turning, i)
	}
	r.Shuffle(len(members), func(i, k int) { members[i], members[k] = members[k], members[i] })
	return made(l, members...)
}

// P21.2, P4: plans that just stand: without any one of their members, or one thing that is held, they move; with one more they have springs to spare.
func TestPlansThatJustStand(t *testing.T) {
	r := rand.New(rand.NewSource(20))
	for range 60 {
		p := standing(r, 2+r.Intn(9))
		counts(t, p, 0, 0)
		checked(t, p)
		for i := range p.Members {
			q := made(p.Joints, slices.Delete(slices.Clone(p.Members), i, i+1)...)
			if l, e := motion.Motions(q); e != api.OK || len(l) == 0 {
				t.Fatal(q, l, e)
			}
			checked(t, q)
		}
		for _, fix := range []uint8{api.FixX, api.FixY} {
			counts(t, held(p, 0, fixAll-fix), 1, 0)
			counts(t, held(p, len(p.Joints)-1, fix), 0, 1)
		}
		counts(t, longer(p, r.Intn(len(p.Members)+1), bar(0, len(p.Joints)-1)), 0, 1)
	}
}

// P21.2: greater plans, against fractions.
func TestMotionsOfGreaterPlans(t *testing.T) {
	r := rand.New(rand.NewSource(6))
	for _, members := range []int{8, 14, 20, 26, 34, 48} {
		checked(t, anyPlan(r, 16, members))
		checked(t, loose(anyPlan(r, 16, members)))
	}
}

// P21.2: the greatest number of springs and unknowns, of all sizes of coordinates.
func TestTheGreatestPlans(t *testing.T) {
	r := rand.New(rand.NewSource(7))
	p := full(r)
	checked(t, p)
	counts(t, p, 3, 144-48+3)
	counts(t, held(p, 0, fixAll), 0, 144-45)
	for range 4 {
		for i := range p.Joints {
			p.Joints[i].X, p.Joints[i].Y = int32(r.Intn(2<<20+1))-edge, int32(r.Intn(2<<20+1))-edge
		}
		counts(t, p, 3, 99)
	}
	var bars48 []api.Member
	for i := range 48 {
		bars48 = append(bars48, bar(i%16, (i%16+1+i/16)%16))
	}
	counts(t, made(p.Joints, bars48...), 3, 48-29)
}

// P21.4: by bars.Stretch, which has a way of its own: no motion stretches a spring; each of them is something, and out of none of the others.
func TestMotionsStretchNothing(t *testing.T) {
	r := rand.New(rand.NewSource(8))
	for range 300 {
		p := anyPlan(r, 9, r.Intn(12))
		l, e := motion.Motions(p)
		if e != api.OK {
			t.Fatal(e)
		}
		lists := make([][]*big.Rat, len(l))
		for i, m := range l {
			stretches, e := bars.Stretch(p, m.By)
			if e != api.OK || slices.ContainsFunc(stretches, func(x api.Ratio) bool { return len(x.Num) > 0 }) {
				t.Fatalf("%+v: %v is stretched by %v, %d", p, m, stretches, e)
			}
			for _, x := range m.By {
				if !ratio.Right(x) {
					t.Fatal(x)
				}
				lists[i] = append(lists[i], value(x))
			}
			if places, e := motion.Moves(p, m); e != api.OK || len(places) == 0 {
				t.Fatal(m, places, e)
			}
		}
		if len(lists) > 0 && len(cleared(lists, len(lists[0]))) != len(lists) {
			t.Fatalf("%+v: one motion comes out of the others: %v", p, l)
		}
	}
}

// P21.4: springs and motions are together as many as unknowns and spare springs.
func TestCountsTogether(t *testing.T) {
	r := rand.New(rand.NewSource(9))
	for range 1000 {
		p := anyPlan(r, 16, r.Intn(30))
		l, e := motion.Motions(p)
		spare, f := motion.Spare(p)
		springs, g := bars.Springs(p)
		unknowns, h := bars.Unknowns(p)
		if e != api.OK || f != api.OK || g != api.OK || h != api.OK {
			t.Fatal(e, f, g, h)
		}
		if len(springs)+len(l) != unknowns.N+spare || spare < 0 {
			t.Fatalf("%+v: %d springs, %d motions, %d unknowns, %d spare", p, len(springs), len(l), unknowns.N, spare)
		}
	}
}

// comesOut tells whether v is a sum of motions, each times some number.
func comesOut(v []*big.Rat, motions []api.Motion) bool {
	lists := [][]*big.Rat{slices.Clone(v)}
	for k, x := range lists[0] {
		lists[0][k] = new(big.Rat).Set(x)
	}
	for _, m := range motions {
		var l []*big.Rat
		for _, x := range m.By {
			l = append(l, value(x))
		}
		lists = append(lists, l)
	}
	return len(cleared(lists, len(v))) == len(motions)
}

// carried is the move by which all joints told go by x and y, and turn by turn about the point 0 0; the others stay.
func carried(p api.Plan, joints []int, x, y, turn int64) []*big.Rat {
	var l []*big.Rat
	for _, u := range unknownsByWords(p) {
		j := p.Joints[u.joint]
		n := [3]int64{x - turn*int64(j.Y), y + turn*int64(j.X), turn}[u.which]
		if !slices.Contains(joints, u.joint) {
			n = 0
		}
		l = append(l, big.NewRat(n, 1))
	}
	return l
}

// P21.4: a plan without anything held has the moves along x, along y and about a point among its motions' sums.
func TestNothingHeld(t *testing.T) {
	r := rand.New(rand.NewSource(10))
	for range 300 {
		p := loose(anyPlan(r, 8, r.Intn(14)))
		l, e := motion.Motions(p)
		if e != api.OK || len(l) < 3 {
			t.Fatal(p, l, e)
		}
		var all []int
		for i := range p.Joints {
			all = append(all, i)
		}
		for _, by := range [][3]int64{{1, 0, 0}, {0, 1, 0}, {0, 0, 1}, {int64(r.Intn(99)), -7, int64(r.Intn(99)) - 50}} {
			if v := carried(p, all, by[0], by[1], by[2]); !comesOut(v, l) {
				t.Fatalf("%+v: %v does not come out of %v", p, v, l)
			}
		}
	}
	// One joint has two moves, two of them three with a bar between.
	counts(t, made([]api.Joint{joint(5, 5, 0)}), 2, 0)
	counts(t, made([]api.Joint{joint(5, 5, 0), joint(6, 6, 0)}, bar(0, 1)), 3, 0)
	if comesOut(parsed(t, "1 0 0"), []api.Motion{{By: ints(0, 1, 0)}, {By: ints(0, 0, 1)}}) {
		t.Error("all comes out")
	}
}

// P21.4: parts that hang together in no way move each by itself: every motion comes out of those that are told.
func TestPartsByThemselves(t *testing.T) {
	l := []api.Joint{joint(0, 0, 0), joint(3, 1, 0), joint(10, 0, 0), joint(14, 2, 0), joint(12, 5, 0), joint(20, 0, fixPoint), joint(20, 9, 0)}
	p := made(l, beam(0, 1), bar(2, 3), bar(3, 4), bar(4, 2), bar(6, 5))
	parts := [][]int{{0, 1}, {2, 3, 4}}
	told, e := motion.Motions(p)
	if e != api.OK || len(told) != 7 {
		t.Fatal(told, e)
	}
	for _, part := range parts {
		for _, by := range [][3]int64{{1, 0, 0}, {0, 1, 0}, {0, 0, 1}} {
			if !comesOut(carried(p, part, by[0], by[1], by[2]), told) {
				t.Error(part, by)
			}
		}
	}
	if !comesOut(carried(p, []int{6}, 1, 0, 0), told) || comesOut(carried(p, []int{6}, 0, 1, 0), told) || comesOut(carried(p, []int{0, 2}, 1, 0, 0), told) {
		t.Error("the last bar")
	}
	checked(t, p)
}

// P21.4: with a member more, wherever it stands among the others, no more motions and no fewer spare springs.
func TestAMemberMore(t *testing.T) {
	r := rand.New(rand.NewSource(11))
	fewer, spared := 0, 0
	for range 500 {
		p := anyPlan(r, 8, r.Intn(12))
		before, _ := motion.Motions(p)
		spare, _ := motion.Spare(p)
		q := longer(p, r.Intn(len(p.Members)+1), anyMember(r, len(p.Joints)))
		after, e := motion.Motions(q)
		more, f := motion.Spare(q)
		if e != api.OK || f != api.OK || len(after) > len(before) || more < spare {
			t.Fatalf("%+v: %d, %d; %+v: %d, %d", p, len(before), spare, q, len(after), more)
		}
		fewer += len(before) - len(after)
		spared += more - spare
	}
	if fewer < 100 || spared < 100 {
		t.Error(fewer, spared)
	}
	// A beam that brings turns along brings what holds them, too.
	p := lone(api.FixY)
	counts(t, p, 0, 0)
	counts(t, longer(p, 0, beam(0, 1)), 0, 1)
	counts(t, longer(p, 1, hinged(0, 1, true, false)), 0, 1)
	counts(t, longer(p, 1, hinged(0, 1, true, true)), 0, 1)
}

// P21.4: with one thing more held no more motions.
func TestOneThingMoreHeld(t *testing.T) {
	r := rand.New(rand.NewSource(12))
	fewer := 0
	for range 200 {
		p := anyPlan(r, 6, r.Intn(10))
		before, _ := motion.Motions(p)
		for i, j := range p.Joints {
			for _, fix := range []uint8{api.FixX, api.FixY, api.FixTurn} {
				after, e := motion.Motions(held(p, i, j.Fix|fix))
				if e != api.OK || len(after) > len(before) || len(after) < len(before)-1 {
					t.Fatalf("%+v: %d, with %d held of %d: %d, %d", p, len(before), fix, i, len(after), e)
				}
				fewer += len(before) - len(after)
			}
		}
	}
	if fewer < 100 {
		t.Error(fewer)
	}
}

// turned leads the other way.
func turned(m api.Member) api.Member {
	m.A, m.B, m.HingeA, m.HingeB = m.B, m.A, m.HingeB, m.HingeA
	return m
}

// P4, P5: members in another order, turned about, elsewhere as a whole, of other stuff: the same motions, and as many spare springs.
func TestMotionsInAnyOrder(t *testing.T) {
	r := rand.New(rand.NewSource(13))
	for range 150 {
		p := anyPlan(r, 7, 1+r.Intn(10))
		want, spare := byWords(p)
		q := copied(p)
		r.Shuffle(len(q.Members), func(i, k int) { q.Members[i], q.Members[k] = q.Members[k], q.Members[i] })
		for i, m := range q.Members {
			if r.Intn(2) == 0 {
				q.Members[i] = turned(m)
			}
			q.Members[i].E, q.Members[i].Area = 0x1p60, 0x1p-60
		}
		moves(t, q, spare, want...)
		for i := range q.Joints {
			q.Joints[i].X, q.Joints[i].Y = q.Joints[i].X/2, q.Joints[i].Y/2
		}
		if e, _ := bars.Check(q); e != api.OK {
			continue
		}
		want, spare = byWords(q)
		for i := range q.Joints {
			q.Joints[i].X, q.Joints[i].Y = q.Joints[i].X-77, q.Joints[i].Y+1000
		}
		moves(t, q, spare, want...)
	}
}
