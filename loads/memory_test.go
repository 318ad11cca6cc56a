package loads_test

import (
	"math"
	"math/rand"
	"slices"
	"testing"

	"girder/api"
	"girder/loads"
	"girder/ratio"
)

// roomy is l in memory of its own, with room behind it that holds filler.
func roomy[T any](l []T, filler T) []T {
	return append(slices.Clone(l), filler, filler, filler)[: len(l) : len(l)+3]
}

// room is the whole memory of l, what is spare too.
func room[T any](l []T) []T { return l[:cap(l)] }

// fill writes x all over the memory of l, its room too.
func fill[T any](l []T, x T) {
	for i := range room(l) {
		room(l)[i] = x
	}
}

// given is all that is handed in.
type given struct {
	p api.Plan
	l []api.Load
	c api.Combo
}

// anyGiven is any, without a fault or with one.
func anyGiven(t *testing.T, r *rand.Rand) given {
	t.Helper()
	p := anyPlan(r, 7, 9)
	g := given{p: p, l: anyLoads(t, r, p, 1+r.Intn(12), 5)}
	g.c = anyCombo(r, g.l)
	switch r.Intn(6) {
	case 0:
		g.l = spoilt(r, g.l)
	case 1:
		g.c.Parts = append(g.c.Parts, part("q", math.NaN()))
	}
	return g
}

// withRoom is g with room behind its lists that holds what would be refused, or counted.
func withRoom(g given) given {
	var w given
	w.p = api.Plan{Joints: roomy(g.p.Joints, api.Joint{Name: "A", X: 77}), Members: roomy(g.p.Members, api.Member{Name: "A", E: 77})}
	w.l = roomy(g.l, force(caseName(0), 0, 77, 77, 0))
	w.c = api.Combo{Name: g.c.Name, Parts: roomy(g.c.Parts, part(caseName(0), 77))}
	return w
}

// sameLoad goes by bits, as what is no number is unlike itself.
func sameLoad(a, b api.Load) bool {
	bits := func(x api.Load) [3]uint32 {
		return [3]uint32{math.Float32bits(x.X), math.Float32bits(x.Y), math.Float32bits(x.Turn)}
	}
	return a.Case == b.Case && a.Kind == b.Kind && a.At == b.At && bits(a) == bits(b)
}

func samePart(a, b api.Part) bool { return a.Case == b.Case && same(a.Factor, b.Factor) }

// sameGiven tells whether both are alike, what is spare too.
func sameGiven(a, b given) bool {
	return slices.Equal(room(a.p.Joints), room(b.p.Joints)) && slices.Equal(room(a.p.Members), room(b.p.Members)) &&
		slices.EqualFunc(room(a.l), room(b.l), sameLoad) && a.c.Name == b.c.Name && slices.EqualFunc(room(a.c.Parts), room(b.c.Parts), samePart)
}

// told is all that is answered.
type told struct {
	all   answers
	cases []string
	e     api.Errno
	place int
}

func tell(g given) told {
	a := told{all: asked(g.p, g.l, g.c), cases: loads.Cases(g.l)}
	a.e, a.place = loads.Check(g.p, g.l)
	return a
}

func sameTold(a, b told) bool {
	return sameAnswers(a.all, b.all) && slices.Equal(a.cases, b.cases) && a.e == b.e && a.place == b.place
}

// R3: what is handed in is left as it was, its room too, and what stands there plays no part; whether it is refused or not.
func TestArgumentsAreLeft(t *testing.T) {
	r := rand.New(rand.NewSource(41))
	met := map[bool]int{}
	for range 300 {
		g := anyGiven(t, r)
		w, was := withRoom(g), withRoom(g)
		got, want := tell(w), tell(g)
		met[want.all.errors[0] == api.OK]++
		if !sameTold(got, want) {
			t.Fatal(got, want)
		}
		if !sameGiven(w, was) {
			t.Fatal("changed:", w, was)
		}
	}
	if met[true] < 100 || met[false] < 50 {
		t.Error(met)
	}
}

// R3: plans, loads and parts whose lists are pieces of others'.
func TestArgumentsThatShare(t *testing.T) {
	r := rand.New(rand.NewSource(42))
	p := anyPlan(r, 8, 1)
	for i := range 20 {
		m := anyMember(r, len(p.Joints))
		m.Name = name(i + 1)
		p.Members = append(p.Members, m)
	}
	var l []api.Load
	for range 60 {
		l = append(l, uniform(caseName(r.Intn(4)), r.Intn(5), anyNumber(r)))
	}
	var c api.Combo
	for i := range 4 {
		c.Parts = append(c.Parts, part(caseName(i), anyFactor(r)))
	}
	was := withRoom(given{p, l, c})
	for k := range 15 {
		g := given{api.Plan{Joints: p.Joints, Members: p.Members[k : k+5]}, l[k : k+40], api.Combo{Parts: c.Parts[k%4:]}}
		apart := given{copied(g.p), slices.Clone(g.l), api.Combo{Parts: slices.Clone(g.c.Parts)}}
		if got, want := tell(g), tell(apart); !sameTold(got, want) {
			t.Fatal(got, want)
		}
		checked(t, g.p, g.l, g.c)
	}
	if now := withRoom(given{p, l, c}); !sameGiven(now, was) {
		t.Error("changed:", now)
	}
}

// numbers is the lists within all ratios of an answer.
func numbers(a answers) [][]uint64 {
	var l [][]uint64
	for _, b := range a.joints {
		for _, r := range b {
			l = append(l, r.Num, r.Den)
		}
	}
	for _, r := range a.exact {
		l = append(l, r.Num, r.Den)
	}
	return l
}

// spoil writes all over the memory of an answer.
func spoil(a told) {
	for _, l := range numbers(a.all) {
		fill(l, 99)
	}
	fill(a.all.joints, [3]api.Ratio{{Neg: true}})
	fill(a.all.exact, api.Ratio{Neg: true})
	fill(a.all.sure, api.Span{Lo: 99, Hi: 99})
	fill(a.all.near, 99)
	fill(a.cases, "spoilt")
}

// R3, R4: whoever writes into an answer changes no argument, no other answer and no later one.
func TestAnswersAreNew(t *testing.T) {
	r := rand.New(rand.NewSource(43))
	for range 200 {
		g := anyGiven(t, r)
		was := withRoom(g)
		want, first, second := tell(g), tell(g), tell(g)
		spoil(first)
		if !sameTold(second, want) {
			t.Fatal("two answers share memory:", second, want)
		}
		if third := tell(g); !sameTold(third, want) {
			t.Fatal("what was answered is kept:", third, want)
		}
		if !sameGiven(withRoom(g), was) {
			t.Fatal("an answer shares memory with what was handed in:", g, was)
		}
	}
}

// R3: no two lists within one answer share memory, their room neither; noughts, and what is the same at both ends of a member, too.
func TestListsOfOneAnswer(t *testing.T) {
	r := rand.New(rand.NewSource(44))
	for i := range 100 {
		g := anyGiven(t, r)
		switch i % 4 {
		case 0:
			g = given{chapter(), []api.Load{uniform("w", 0, 3), force("w", 2, 1, 1, 1)}, once("w")}
		case 1:
			g = given{chapter(), nil, combo()}
		}
		a := asked(g.p, g.l, g.c)
		lists := numbers(a)
		var was [][]uint64
		for _, l := range lists {
			was = append(was, slices.Clone(l))
		}
		for k, l := range lists {
			fill(l, 99)
			for later := k + 1; later < len(lists); later++ {
				if !slices.Equal(lists[later], was[later]) {
					t.Fatal("two lists share memory:", k, later)
				}
			}
		}
	}
	zero := ratio.Int(0)
	if x, e := loads.Exact(chapter(), nil, combo()); e != api.OK || len(x) != 6 || !sameRatio(x[5], zero) {
		t.Error(x, e)
	}
}

// R3: what is handed in is not kept: an answer stands though it changes behind it.
func TestArgumentsAreNotKept(t *testing.T) {
	r := rand.New(rand.NewSource(45))
	for range 100 {
		g := anyGiven(t, r)
		want := tell(withRoom(g))
		got := tell(g)
		fill(g.p.Joints, api.Joint{X: 9})
		fill(g.p.Members, api.Member{A: 9})
		fill(g.l, api.Load{Case: "spoilt", Y: 9})
		fill(g.c.Parts, api.Part{Case: "spoilt", Factor: 9})
		if !sameTold(got, want) {
			t.Fatal(got, want)
		}
	}
}

// R4: what was asked ahead, refused or not, plays no part.
func TestNothingIsLeftBehind(t *testing.T) {
	r := rand.New(rand.NewSource(46))
	g := given{chapter(), []api.Load{uniform("w", 0, 3), force("s", 2, 1, 1, 1)}, combo(part("w", 1.35), part("s", -0.1))}
	want := tell(g)
	for range 100 {
		tell(anyGiven(t, r))
		if got := tell(g); !sameTold(got, want) {
			t.Fatal(got, want)
		}
	}
}
