package motion_test

import (
	"math"
	"math/rand"
	"slices"
	"testing"

	"girder/api"
)

// P21.1: each kind of member by itself, led either way, with nothing held.
func TestRowsOfKinds(t *testing.T) {
	l := []api.Joint{joint(0, 0, 0), joint(3, 4, 0)}
	for _, x := range []struct {
		m    api.Member
		cols int
		want [][]int64
	}{
		{bar(0, 1), 4, [][]int64{{-3, -4, 3, 4}}},
		{bar(1, 0), 4, [][]int64{{-3, -4, 3, 4}}},
		{hinged(0, 1, true, true), 4, [][]int64{{-3, -4, 3, 4}}},
		{hinged(1, 0, true, true), 4, [][]int64{{-3, -4, 3, 4}}},
		{beam(0, 1), 6, [][]int64{{-3, -4, 0, 3, 4, 0}, {-8, 6, 25, 8, -6, 25}, {0, 0, 1, 0, 0, -1}}},
		{beam(1, 0), 6, [][]int64{{-3, -4, 0, 3, 4, 0}, {-8, 6, 25, 8, -6, 25}, {0, 0, -1, 0, 0, 1}}},
		{hinged(0, 1, false, true), 5, [][]int64{{-3, -4, 0, 3, 4}, {-4, 3, 25, 4, -3}}},
		{hinged(1, 0, true, false), 5, [][]int64{{-3, -4, 0, 3, 4}, {-4, 3, 25, 4, -3}}},
		{hinged(0, 1, true, false), 5, [][]int64{{-3, -4, 3, 4, 0}, {-4, 3, 4, -3, 25}}},
		{hinged(1, 0, false, true), 5, [][]int64{{-3, -4, 3, 4, 0}, {-4, 3, 4, -3, 25}}},
	} {
		p := made(l, x.m)
		rows(t, p, x.cols, x.want...)
		checked(t, p)
	}
}

// P21.1: plans of no joint, of no member, of springs without unknowns and of unknowns without springs.
func TestRowsOfNothing(t *testing.T) {
	rows(t, api.Plan{}, 0)
	rows(t, api.Plan{Joints: []api.Joint{}, Members: []api.Member{}}, 0)
	for n := range 17 {
		var l, still []api.Joint
		for i := range n {
			l = append(l, joint(int32(i), 0, 0))
			still = append(still, joint(int32(i), 0, fixPoint))
		}
		rows(t, made(l), 2*n) // no beam: no turn
		rows(t, made(still), 0)
	}
	two := []api.Joint{joint(0, 0, fixAll), joint(3, 4, fixAll)}
	rows(t, made(two, bar(0, 1)), 0, nil)
	rows(t, made(two, beam(0, 1)), 0, nil, nil, nil)
	rows(t, made(two, beam(0, 1), hinged(1, 0, true, false), bar(0, 1)), 0, nil, nil, nil, nil, nil, nil)
	still := []api.Joint{joint(0, 0, fixPoint), joint(3, 4, fixPoint)}
	rows(t, made(still, bar(0, 1), hinged(0, 1, true, true)), 0, nil, nil) // nothing takes hold of a turn
}

// P21.1: a beam of which each of the six moves is held or not: the columns are those that are not.
func TestRowsWhereMovesAreHeld(t *testing.T) {
	all := [][]int64{{-3, -4, 0, 3, 4, 0}, {-8, 6, 25, 8, -6, 25}, {0, 0, 1, 0, 0, -1}}
	for fix := range 64 {
		p := made([]api.Joint{joint(0, 0, uint8(fix&7)), joint(3, 4, uint8(fix>>3))}, beam(0, 1))
		want := make([][]int64, 3)
		cols := 0
		for k := range 6 {
			if fix>>k&1 == 0 {
				cols++
				for i := range all {
					want[i] = append(want[i], all[i][k])
				}
			}
		}
		rows(t, p, cols, want...)
		checked(t, p)
	}
}

// P21.1: members that meet at one joint, held in y: each of them has its own numbers there, and 0 at all that it does not meet.
func TestRowsOfMembersThatMeet(t *testing.T) {
	l := []api.Joint{joint(0, 0, api.FixY), joint(2, 1, 0), joint(-1, 3, fixPoint), joint(5, 5, 0)}
	p := made(l, bar(0, 1), bar(2, 0), beam(0, 2), hinged(1, 0, false, true))
	// The unknowns: x and turn of the first joint; x, y and turn of the second; the turn of the third; x and y of the last one, which no member meets.
	rows(t, p, 8,
		[]int64{-2, 0, 2, 1, 0, 0, 0, 0},
		[]int64{1, 0, 0, 0, 0, 0, 0, 0},
		[]int64{1, 0, 0, 0, 0, 0, 0, 0},
		[]int64{-6, 10, 0, 0, 0, 10, 0, 0},
		[]int64{0, 1, 0, 0, 0, -1, 0, 0},
		[]int64{-2, 0, 2, 1, 0, 0, 0, 0},
		[]int64{-1, 0, 1, -2, 5, 0, 0, 0},
	)
	checked(t, p)
	// A turn of which a hinge alone takes hold on this member's side: it has 0 there.
	q := made([]api.Joint{joint(0, 0, fixAll), joint(1, 0, fixPoint), joint(2, 0, fixAll)}, hinged(0, 1, false, true), beam(1, 2))
	rows(t, q, 1, []int64{0}, []int64{0}, []int64{0}, []int64{1}, []int64{1})
	checked(t, q)
}

// P21.1: the springs stand in the members' order, also where members lead between the same joints.
func TestRowsInOrder(t *testing.T) {
	l := []api.Joint{joint(0, 0, fixAll), joint(1, 0, 0), joint(0, 1, 0)}
	p := made(l, bar(0, 1), bar(0, 2), bar(1, 2), bar(0, 1))
	rows(t, p, 4, []int64{1, 0, 0, 0}, []int64{0, 0, 0, 1}, []int64{1, -1, -1, 1}, []int64{1, 0, 0, 0})
	q := made(l, bar(1, 2), bar(0, 1), bar(0, 1), bar(0, 2))
	rows(t, q, 4, []int64{1, -1, -1, 1}, []int64{1, 0, 0, 0}, []int64{1, 0, 0, 0}, []int64{0, 0, 0, 1})
}

// P21.1: the greatest numbers that there are.
func TestRowsOfGreatNumbers(t *testing.T) {
	p := made([]api.Joint{joint(-edge, edge, 0), joint(edge, -edge, 0)}, beam(0, 1), hinged(1, 0, false, true))
	const far, square = 1 << 21, 1 << 43
	rows(t, p, 6,
		[]int64{-far, far, 0, far, -far, 0},
		[]int64{2 * far, 2 * far, square, -2 * far, -2 * far, square},
		[]int64{0, 0, 1, 0, 0, -1},
		[]int64{-far, far, 0, far, -far, 0},
		[]int64{far, far, 0, -far, -far, square},
	)
	checked(t, p)
}

// full is 48 beams between 16 joints with nothing held: 144 springs, 48 unknowns.
func full(r *rand.Rand) api.Plan {
	l := anyJoints(r, 16, math.MaxInt32)
	for i := range l {
		l[i].Fix = 0
	}
	var members []api.Member
	for i := range 48 {
		members = append(members, beam(i%16, (i%16+1+i/16)%16))
	}
	return made(l, members...)
}

// P21.1: the greatest number of springs and unknowns.
func TestRowsOfTheGreatestPlans(t *testing.T) {
	r := rand.New(rand.NewSource(1))
	for range 3 {
		p := full(r)
		if len(rowsByWords(p)) != 144 || len(unknownsByWords(p)) != 48 {
			t.Fatal(p)
		}
		rows(t, p, 48, rowsByWords(p)...)
	}
}

// P21.1: many plans, against the words, number by number.
func TestRowsByWords(t *testing.T) {
	r := rand.New(rand.NewSource(2))
	for range 1500 {
		p := anyPlan(r, 16, r.Intn(49))
		rows(t, p, len(unknownsByWords(p)), rowsByWords(p)...)
	}
}

// P21.1: what a plan is made of, but for where it stands, how it is led and what is held, plays no part.
func TestRowsHangOnPlacesAlone(t *testing.T) {
	r := rand.New(rand.NewSource(3))
	for range 200 {
		p := anyPlan(r, 8, r.Intn(12))
		q := copied(p)
		for i := range q.Members {
			q.Members[i].E, q.Members[i].Area, q.Members[i].Name = 0x1p-60, 0x1p60, "other"+short(i)
			if q.Members[i].Kind == api.Beam {
				q.Members[i].I = 0x1p-30
			}
		}
		for i := range q.Joints {
			q.Joints[i].Name = "k" + short(i)
		}
		rows(t, q, len(unknownsByWords(p)), rowsByWords(p)...)
	}
}

// Each error of bars.Check, ahead of whatever else is asked.
func TestRefused(t *testing.T) {
	good := made([]api.Joint{joint(0, 0, fixPoint), joint(4, 3, 0)}, bar(0, 1))
	faultyJoint := []func(j *api.Joint){
		func(j *api.Joint) { j.Name = "" },
		func(j *api.Joint) { j.Name = "A" },
		func(j *api.Joint) { j.Name = "abcdefghi" },
		func(j *api.Joint) { j.X = edge + 1 },
		func(j *api.Joint) { j.Y = math.MinInt32 },
		func(j *api.Joint) { j.Fix = 8 },
		func(j *api.Joint) { j.X, j.Y = 0, 0 },
		func(j *api.Joint) { j.Name = "jmaa" },
	}
	for _, fault := range faultyJoint {
		p := copied(good)
		fault(&p.Joints[1])
		refused(t, p, api.ErrJoint)
		p.Members[0].B = 7 // the joints count first
		refused(t, p, api.ErrJoint)
		p.Members = make([]api.Member, 49)
		refused(t, p, api.ErrJoint)
	}
	faultyMember := []func(m *api.Member){
		func(m *api.Member) { m.B = 0 },
		func(m *api.Member) { m.B = 2 },
		func(m *api.Member) { m.A = -1 },
		func(m *api.Member) { m.B = math.MaxInt },
		func(m *api.Member) { m.Kind = 0 },
		func(m *api.Member) { m.Kind = 3 },
		func(m *api.Member) { m.E = 0 },
		func(m *api.Member) { m.E = math.NaN() },
		func(m *api.Member) { m.Area = math.Inf(1) },
		func(m *api.Member) { m.I = 1 },
		func(m *api.Member) { m.HingeA = true },
		func(m *api.Member) { m.Name = "" },
	}
	for _, fault := range faultyMember {
		p := copied(good)
		fault(&p.Members[0])
		refused(t, p, api.ErrMember)
		p = longer(good, 1, bar(0, 1))
		p.Members[1].Name = "last"
		fault(&p.Members[1])
		refused(t, p, api.ErrMember)
	}
	twice := longer(good, 1, bar(1, 0))
	twice.Members[1].Name = twice.Members[0].Name
	refused(t, twice, api.ErrMember)
	refused(t, api.Plan{Members: []api.Member{bar(0, 1)}}, api.ErrMember)

	many := full(rand.New(rand.NewSource(4)))
	checked(t, made(many.Joints, many.Members[:2]...))
	refused(t, longer(many, 48, bar(0, 1)), api.ErrLong)
	refused(t, api.Plan{Joints: good.Joints, Members: make([]api.Member, 49)}, api.ErrLong)
	crowd := made(append(slices.Clone(many.Joints), joint(77, 77, 0)), many.Members...)
	refused(t, crowd, api.ErrLong)
	refused(t, api.Plan{Joints: make([]api.Joint, 17)}, api.ErrLong)
}
