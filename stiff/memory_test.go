package stiff_test

import (
	"math"
	"math/rand"
	"slices"
	"testing"

	"girder/api"
	"girder/stiff"
)

// roomy is l in memory of its own, with room behind it that holds filler.
func roomy[T any](l []T, filler T) []T {
	return append(slices.Clone(l), filler, filler, filler)[: len(l) : len(l)+3]
}

// room is the whole memory of l, what is spare too.
func room[T any](l []T) []T { return l[:cap(l)] }

// fill writes x all over the memory of l, its room too.
func fill[T any](l []T, x T) {
	for i := range room(l) {
		room(l)[i] = x
	}
}

// roomyPlan is p with room behind its lists that holds what would be refused.
func roomyPlan(p api.Plan) api.Plan {
	return api.Plan{Joints: roomy(p.Joints, api.Joint{Name: "A", X: 77}), Members: roomy(p.Members, api.Member{Name: "A", E: math.NaN()})}
}

func roomyDyads(l []api.Dyad) []api.Dyad {
	out := make([]api.Dyad, len(l))
	for i, d := range l {
		out[i] = api.Dyad{Neg: d.Neg, Mag: roomy(d.Mag, 77), Exp: d.Exp}
	}
	return roomy(out, api.Dyad{Neg: true, Exp: 77})
}

// sameMember goes by bits, as what is no number is unlike itself.
func sameMember(a, b api.Member) bool {
	if !same(a.E, b.E) || !same(a.Area, b.Area) || !same(a.I, b.I) {
		return false
	}
	a.E, a.Area, a.I, b.E, b.Area, b.I = 0, 0, 0, 0, 0, 0
	return a == b
}

func samePlan(a, b api.Plan) bool {
	return slices.Equal(a.Joints, b.Joints) && slices.EqualFunc(a.Members, b.Members, sameMember)
}

// answers is all that the calls tell of a plan and of an exact one.
type answers struct {
	near   api.Matrix
	sure   api.Spans
	exact  api.Dyads
	errors [3]api.Errno
}

func asked(p api.Plan, at []api.Dyad) answers {
	var a answers
	a.near, a.errors[0] = stiff.Near(p)
	a.sure, a.errors[1] = stiff.Sure(p)
	a.exact, a.errors[2] = stiff.Exact(p, at)
	return a
}

func sameAnswers(a, b answers) bool {
	shape := func(x answers) [6]int {
		return [6]int{x.near.Rows, x.near.Cols, x.sure.Rows, x.sure.Cols, x.exact.Rows, x.exact.Cols}
	}
	return shape(a) == shape(b) && a.errors == b.errors && slices.EqualFunc(a.near.Data, b.near.Data, same) &&
		slices.EqualFunc(a.sure.Data, b.sure.Data, sameSpan) && slices.EqualFunc(a.exact.Data, b.exact.Data, sameDyad)
}

// spoilt is p, or at, with a fault.
func spoilt(r *rand.Rand, p api.Plan, at []api.Dyad) (api.Plan, []api.Dyad) {
	p, at = copied(p), slices.Clone(at)
	switch {
	case r.Intn(3) == 0:
		p.Joints[r.Intn(len(p.Joints))].Fix = 9
	case r.Intn(3) == 0 || len(at) == 0:
		at = append(at, api.Dyad{Mag: []uint64{2}})
	default:
		at[r.Intn(len(at))] = api.Dyad{Mag: []uint64{2}}
	}
	return p, at
}

// R3: what is handed in is left as it was, its room too, and what stands there plays no part; whether it is refused or not.
func TestArgumentsAreLeft(t *testing.T) {
	r := rand.New(rand.NewSource(31))
	for i := range 200 {
		p := anyPlan(r, 7, r.Intn(9))
		at := anyExact(t, r, p, []int{60, 900, widest}[i%3])
		if i%4 == 0 {
			p, at = spoilt(r, p, at)
		}
		q, dyads := roomyPlan(p), roomyDyads(at)
		was := api.Plan{Joints: slices.Clone(room(q.Joints)), Members: slices.Clone(room(q.Members))}

		if got, want := asked(q, dyads), asked(p, at); !sameAnswers(got, want) {
			t.Fatal(got, want)
		}
		if !samePlan(api.Plan{Joints: room(q.Joints), Members: room(q.Members)}, was) {
			t.Fatal("the plan has changed:", q)
		}
		for k, d := range room(dyads) {
			if k >= len(at) {
				if !sameDyad(d, api.Dyad{Neg: true, Exp: 77}) {
					t.Fatal("the room has changed:", d)
				}
				continue
			}
			if d.Neg != at[k].Neg || d.Exp != at[k].Exp || !slices.Equal(room(d.Mag), append(slices.Clone(at[k].Mag), 77, 77, 77)) {
				t.Fatal("a dyad has changed:", d)
			}
		}
	}
}

// R3: plans whose lists are pieces of others', and dyads whose limbs are one piece of memory.
func TestArgumentsThatShare(t *testing.T) {
	r := rand.New(rand.NewSource(32))
	whole := full(r)
	was := copied(whole)
	for from := range 20 {
		part := api.Plan{Joints: whole.Joints, Members: whole.Members[from : from+3]}
		checked(t, part, anyExact(t, r, copied(part), 100))
	}
	// 1, 3 and 625, told by pieces of one list; each spring of the same stiffness by the same one.
	limbs := []uint64{1, 3, 625, 99}
	of := func(k int) api.Dyad { return api.Dyad{Mag: limbs[k : k+1]} }
	p := three(0, 0, bar(0, 1), beam(0, 1), bar(1, 0), beam(1, 0))
	at := []api.Dyad{of(0), of(0), of(1), of(2), of(0), of(0), of(1), of(2)}
	apart := ints(1, 1, 3, 625, 1, 1, 3, 625)
	exact(t, p, at, 6, exactByWords(t, p, apart)...)
	inexact(t, p, append(at[:7:7], of(3)), api.ErrArg)
	// The numbers of one exact matrix, handed back.
	m, _ := stiff.Exact(three(fixAll, api.FixX+api.FixTurn, bar(0, 1)), ints(1))
	q := made([]api.Joint{joint(0, 0, fixPoint), joint(1, 0, 0)}, strong(api.Member{Kind: api.Bar, A: 0, B: 1, E: 1, Area: 1}, 16))
	exact(t, q, m.Data, 2, wholes(16, 0, 0, 0)...)
	if !samePlan(whole, was) || !slices.Equal(limbs, []uint64{1, 3, 625, 99}) {
		t.Error("changed:", whole, limbs)
	}
}

// R3, R4: whoever writes into an answer changes no argument, no other answer and no later one.
func TestAnswersAreNew(t *testing.T) {
	r := rand.New(rand.NewSource(33))
	for range 150 {
		p := anyPlan(r, 7, r.Intn(8))
		at := anyExact(t, r, p, 200)
		was, dyads := copied(p), roomyDyads(at)
		want, first, second := asked(p, at), asked(p, at), asked(p, at)
		fill(first.near.Data, 99)
		fill(first.sure.Data, api.Span{Lo: 99, Hi: 99})
		for _, d := range first.exact.Data {
			fill(d.Mag, 99)
		}
		fill(first.exact.Data, api.Dyad{Exp: 99})
		if !sameAnswers(second, want) {
			t.Fatal("two answers share memory:", second, want)
		}
		if third := asked(p, at); !sameAnswers(third, want) {
			t.Fatal("what was answered is kept:", third, want)
		}
		if !samePlan(p, was) || !slices.EqualFunc(at, dyads, sameDyad) {
			t.Fatal("an answer shares memory with what was handed in:", p, at)
		}
	}
}

// R3: no two lists within one answer share memory, their room neither; so it is with a number that is one of those handed in, and with those of both halves.
func TestListsOfOneAnswer(t *testing.T) {
	r := rand.New(rand.NewSource(34))
	for i := range 100 {
		p := anyPlan(r, 5, 1+r.Intn(5))
		if i == 0 {
			p = made([]api.Joint{joint(0, 0, 0), joint(1, 0, 0)}, bar(0, 1))
		}
		at := anyExact(t, r, p, 300)
		m, e := stiff.Exact(p, at)
		want, _ := stiff.Exact(p, at)
		if e != api.OK {
			t.Fatal(e)
		}
		for k, d := range m.Data {
			fill(d.Mag, 99)
			for later := k + 1; later < len(m.Data); later++ {
				if !sameDyad(m.Data[later], want.Data[later]) {
					t.Fatal("two numbers share memory")
				}
			}
		}
	}
}

// R3: what is handed in is not kept: an answer stands though the plan and the dyads change behind it.
func TestArgumentsAreNotKept(t *testing.T) {
	r := rand.New(rand.NewSource(35))
	for range 100 {
		p := anyPlan(r, 7, 1+r.Intn(8))
		at := anyExact(t, r, p, 200)
		want := asked(copied(p), roomyDyads(at))
		got := asked(p, at)
		for _, d := range at {
			fill(d.Mag, 99)
		}
		fill(at, api.Dyad{})
		fill(p.Joints, api.Joint{X: 9})
		fill(p.Members, api.Member{A: 9})
		if !sameAnswers(got, want) {
			t.Fatal(got, want)
		}
	}
}

// R4: what was asked ahead, refused or not, plays no part.
func TestNothingIsLeftBehind(t *testing.T) {
	r := rand.New(rand.NewSource(36))
	p := three(0, 0, beam(0, 1), bar(0, 1))
	want := asked(p, ints(1, 3, 625, 1))
	for range 50 {
		q := anyPlan(r, 7, r.Intn(9))
		at := anyExact(t, r, q, 200)
		asked(q, at)
		asked(spoilt(r, q, at))
		if got := asked(p, ints(1, 3, 625, 1)); !sameAnswers(got, want) {
			t.Fatal(got, want)
		}
	}
}
