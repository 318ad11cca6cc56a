package moved_test

import (
	"math"
	"math/rand"
	"slices"
	"testing"

	"girder/api"
)

// roomy is l in memory of its own, with room behind it that holds filler.
func roomy[T any](l []T, filler T) []T {
	return append(slices.Clone(l), filler, filler, filler)[: len(l) : len(l)+3]
}

// room is the whole memory of l, what is spare too.
func room[T any](l []T) []T { return l[:cap(l)] }

// fill writes x all over the memory of l, its room too.
func fill[T any](l []T, x T) {
	for i := range room(l) {
		room(l)[i] = x
	}
}

// withRoom is g in memory of its own, with room behind its lists that holds what would be refused, or counted.
func withRoom(g given) given {
	at := make([]api.Dyad, len(g.at))
	for k, d := range g.at {
		at[k] = api.Dyad{Neg: d.Neg, Mag: roomy(d.Mag, 77), Exp: d.Exp}
	}
	return given{
		p:  api.Plan{Joints: roomy(g.p.Joints, api.Joint{Name: "A", X: 77}), Members: roomy(g.p.Members, api.Member{Name: "A", E: noNumber})},
		l:  roomy(g.l, force(caseName(0), 0, 77, 77, 0)),
		c:  api.Combo{Name: g.c.Name, Parts: roomy(g.c.Parts, part(caseName(0), 77))},
		at: roomy(at, api.Dyad{Neg: true, Exp: 77}),
	}
}

// sameMember goes by bits, as what is no number is unlike itself.
func sameMember(a, b api.Member) bool {
	if !same(a.E, b.E) || !same(a.Area, b.Area) || !same(a.I, b.I) {
		return false
	}
	a.E, a.Area, a.I, b.E, b.Area, b.I = 0, 0, 0, 0, 0, 0
	return a == b
}

func sameLoad(a, b api.Load) bool {
	bits := func(x api.Load) [3]uint32 {
		return [3]uint32{math.Float32bits(x.X), math.Float32bits(x.Y), math.Float32bits(x.Turn)}
	}
	return a.Case == b.Case && a.Kind == b.Kind && a.At == b.At && bits(a) == bits(b)
}

func samePart(a, b api.Part) bool { return a.Case == b.Case && same(a.Factor, b.Factor) }

// sameDyad goes by all of both's memory.
func sameDyad(a, b api.Dyad) bool {
	return a.Neg == b.Neg && a.Exp == b.Exp && slices.Equal(room(a.Mag), room(b.Mag))
}

// sameGiven tells whether both are alike, what is spare too.
func sameGiven(a, b given) bool {
	return slices.Equal(room(a.p.Joints), room(b.p.Joints)) && slices.EqualFunc(room(a.p.Members), room(b.p.Members), sameMember) &&
		slices.EqualFunc(room(a.l), room(b.l), sameLoad) && a.c.Name == b.c.Name && slices.EqualFunc(room(a.c.Parts), room(b.c.Parts), samePart) &&
		slices.EqualFunc(room(a.at), room(b.at), sameDyad)
}

// anyAsked is any that may be, or with a fault.
func anyAsked(t *testing.T, r *rand.Rand) given {
	t.Helper()
	g := anyGiven(t, r, 5, r.Intn(30))
	switch r.Intn(8) {
	case 0:
		g.p.Joints[0].Fix = 9
	case 1:
		g.l[0].Kind = 3
	case 2:
		g.c.Parts = append(g.c.Parts, part("q", noNumber))
	case 3:
		for i := range g.p.Joints {
			g.p.Joints[i].Fix = 0
		}
	case 4:
		g.at = append(g.at, g.at[0])
	case 5:
		g.at[0] = dyadOf(-1)
	}
	return g
}

// R3: what is handed in is left as it was, its room too, and what stands there plays no part; whether it is refused or not.
func TestArgumentsAreLeft(t *testing.T) {
	r := rand.New(rand.NewSource(41))
	met := map[api.Errno]int{}
	for range 200 {
		g := anyAsked(t, r)
		w, was := withRoom(g), withRoom(g)
		got, want := asked(w), asked(g)
		for _, e := range want.errors {
			met[e]++
		}
		if !sameAnswers(got, want) {
			t.Fatal(got, want)
		}
		if !sameGiven(w, was) {
			t.Fatal("changed:", w, was)
		}
	}
	for _, e := range []api.Errno{api.OK, api.ErrJoint, api.ErrLoad, api.ErrCase, api.ErrMotion, api.ErrShape, api.ErrArg, api.ErrPivot, api.ErrBound} {
		if met[e] == 0 {
			t.Error(e, met)
		}
	}
}

// R3: plans, loads, parts and dyads whose lists are pieces of others'.
func TestArgumentsThatShare(t *testing.T) {
	r := rand.New(rand.NewSource(42))
	p := made([]api.Joint{joint(0, 0, fixAll), joint(8, 0, 0), joint(8, 6, 0), joint(0, 6, fixAll)},
		beam(0, 1), beam(1, 2), beam(2, 3), beam(1, 2), beam(2, 0), beam(0, 1), beam(3, 1), beam(3, 2), beam(1, 3))
	l := anyLoads(t, r, api.Plan{Joints: p.Joints, Members: p.Members[:3]}, 40, 1)
	c := combo(part(caseName(0), 1.35))
	at := exactPlan(t, p, lowEnd)
	was := withRoom(given{p, l, c, at})
	for k := range 7 {
		g := given{api.Plan{Joints: p.Joints, Members: p.Members[k : k+3]}, l[k : k+30], c, at[3*k : 3*k+9]}
		apart := given{copied(g.p), slices.Clone(g.l), combo(c.Parts[0]), withRoom(g).at}
		got, want := asked(g), asked(apart)
		if got.errors != [3]api.Errno{} || !sameAnswers(got, want) {
			t.Fatal(got, want)
		}
		near(t, g)
		solve(t, g)
		exact(t, g)
	}
	if now := withRoom(given{p, l, c, at}); !sameGiven(now, was) {
		t.Error("changed:", now)
	}
	// 1, 2 and 4, told by pieces of one list; 2, and 2 again, by the same one.
	limbs := []uint64{1, 1, 99}
	of := func(k, exp int) api.Dyad { return api.Dyad{Mag: limbs[k : k+1], Exp: exp} }
	push := []api.Load{force("w", 4, 8, 0, 0)}
	goes(t, given{row(1, 2, 4, 2), push, once("w"), []api.Dyad{of(0, 0), of(1, 1), of(0, 2), of(1, 1)}}, whole(8), whole(12), whole(14), whole(18))
	if !slices.Equal(limbs, []uint64{1, 1, 99}) {
		t.Error("changed:", limbs)
	}
}

// numbers is the lists within all ratios of an answer.
func numbers(l []api.Ratio) [][]uint64 {
	var out [][]uint64
	for _, r := range l {
		out = append(out, r.Num, r.Den)
	}
	return out
}

// spoil writes all over the memory of an answer.
func spoil(a answers) {
	for _, l := range numbers(a.exact) {
		fill(l, 99)
	}
	fill(a.exact, api.Ratio{Neg: true})
	fill(a.near, 99)
	fill(a.solve.Near, 99)
	fill(a.solve.Sure, api.Span{Lo: 99, Hi: 99})
}

// R3, R4: whoever writes into an answer changes no argument, no other answer and no later one.
func TestAnswersAreNew(t *testing.T) {
	r := rand.New(rand.NewSource(43))
	for range 150 {
		g := anyAsked(t, r)
		was := withRoom(g)
		want, first, second := asked(g), asked(g), asked(g)
		spoil(first)
		if !sameAnswers(second, want) {
			t.Fatal("two answers share memory:", second, want)
		}
		if third := asked(g); !sameAnswers(third, want) {
			t.Fatal("what was answered is kept:", third, want)
		}
		if !sameGiven(withRoom(g), was) {
			t.Fatal("an answer shares memory with what was handed in:", g, was)
		}
	}
}

// R3: no two lists within one answer share memory, their room neither; moves that are the same, noughts and ones, too.
func TestListsOfOneAnswer(t *testing.T) {
	r := rand.New(rand.NewSource(44))
	for i := range 60 {
		g := anyGiven(t, r, 5, 5)
		switch i % 4 {
		case 0:
			g = given{row(1, 1, 1), []api.Load{force("w", 1, 1, 0, 0)}, once("w"), dyads(1, 1, 1)}
		case 1:
			g.l, g.c = nil, combo()
		}
		a := asked(g)
		lists := numbers(a.exact)
		var was [][]uint64
		for _, l := range lists {
			was = append(was, slices.Clone(l))
		}
		for k, l := range lists {
			fill(l, 99)
			for later := k + 1; later < len(lists); later++ {
				if !slices.Equal(lists[later], was[later]) {
					t.Fatal("two lists share memory:", k, later)
				}
			}
		}
	}
}

// R3: what is handed in is not kept: an answer stands though it changes behind it.
func TestArgumentsAreNotKept(t *testing.T) {
	r := rand.New(rand.NewSource(45))
	for range 80 {
		g := anyAsked(t, r)
		want := asked(withRoom(g))
		got := asked(g)
		for _, d := range g.at {
			fill(d.Mag, 99)
		}
		fill(g.at, api.Dyad{})
		fill(g.p.Joints, api.Joint{X: 9})
		fill(g.p.Members, api.Member{A: 9})
		fill(g.l, api.Load{Case: "spoilt", Y: 9})
		fill(g.c.Parts, api.Part{Case: "spoilt", Factor: 9})
		if !sameAnswers(got, want) {
			t.Fatal(got, want)
		}
	}
}

// R4: what was asked ahead, refused or not, plays no part.
func TestNothingIsLeftBehind(t *testing.T) {
	r := rand.New(rand.NewSource(46))
	g := hard()
	g.at = exactPlan(t, g.p, highEnd)
	want := asked(g)
	for range 50 {
		asked(anyAsked(t, r))
		if got := asked(g); !sameAnswers(got, want) {
			t.Fatal(got, want)
		}
	}
}
