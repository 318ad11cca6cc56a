package moved_test

import (
	"math"
	"math/big"
	"math/rand"
	"slices"
	"testing"

	"girder/api"
	"girder/bars"
	"girder/moved"
)

// P24.4, P6: the exact moves of a combination are the sum of those of its cases, each times its factor; the spans have it.
func TestPartsByThemselves(t *testing.T) {
	r := rand.New(rand.NewSource(31))
	met := map[int]int{}
	for range 150 {
		g := anyGiven(t, r, 5, 5)
		x, e := moved.Exact(g.p, g.l, g.c, g.at)
		if e != api.OK {
			continue
		}
		met[len(g.c.Parts)]++
		sum := make([]*big.Rat, len(x))
		for k := range sum {
			sum[k] = new(big.Rat)
		}
		for _, of := range g.c.Parts {
			y, e := moved.Exact(g.p, g.l, once(of.Case), g.at)
			if e != api.OK {
				t.Fatal(g, e)
			}
			for k, v := range fractions(y) {
				sum[k].Add(sum[k], v.Mul(v, exactly(of.Factor)))
			}
		}
		if !equal(fractions(x), sum) {
			t.Fatal(g, x, sum)
		}
		m, e := moved.Solve(g.p, g.l, g.c)
		for k, s := range m.Sure {
			if e == api.OK && !holds(s, sum[k]) {
				t.Fatal(g, s, sum[k])
			}
		}
	}
	if met[0] == 0 || met[1] < 10 || met[2] < 10 || met[3]+met[4] < 10 {
		t.Error(met)
	}
}

// times is floats times a power of two.
func times(l []float64, power float64) []float64 {
	out := slices.Clone(l)
	for k := range out {
		out[k] *= power
	}
	return out
}

// timesAll is what is told, times a power of two.
func timesAll(a answers, k int) answers {
	power := math.Ldexp(1, k)
	out := answers{near: times(a.near, power), solve: api.Moved{Near: times(a.solve.Near, power)}, errors: a.errors}
	for _, s := range a.solve.Sure {
		out.solve.Sure = append(out.solve.Sure, api.Span{Lo: s.Lo * power, Hi: s.Hi * power})
	}
	return out
}

// exactlyTimes fails unless b is a times a power of two, number by number.
func exactlyTimes(t *testing.T, a, b []api.Ratio, k int) {
	t.Helper()
	want := fractions(a)
	for _, v := range want {
		v.Mul(v, exactly(math.Ldexp(1, k)))
	}
	if !equal(fractions(b), want) {
		t.Fatal(a, b, k)
	}
}

// P24.4: springs that are all twice as stiff: half the moves; the floats, and the spans, to the bit.
func TestTwiceAsStiff(t *testing.T) {
	r := rand.New(rand.NewSource(32))
	met := map[api.Errno]int{}
	for range 150 {
		g := anyGiven(t, r, 5, 10)
		h := given{copied(g.p), g.l, g.c, slices.Clone(g.at)}
		for i := range h.p.Members {
			h.p.Members[i].E *= 2
		}
		for i, d := range h.at {
			d.Exp++
			h.at[i] = d
		}
		a, b := asked(g), asked(h)
		want := timesAll(a, -1)
		want.exact = b.exact
		if !sameAnswers(b, want) {
			t.Fatal(g, a, b)
		}
		exactlyTimes(t, a.exact, b.exact, -1)
		met[a.errors[1]]++
	}
	if met[api.OK] < 80 {
		t.Error(met)
	}
}

// P5: with all loads times a power of two all moves are so many times as great, to the bit.
func TestLoadsTimesPowers(t *testing.T) {
	r := rand.New(rand.NewSource(33))
	met := map[api.Errno]int{}
	for _, wide := range []int{0, 5, 29} {
		for range 80 {
			g := anyGiven(t, r, 5, wide)
			for i := range g.l {
				for _, x := range []*float32{&g.l[i].X, &g.l[i].Y, &g.l[i].Turn} {
					*x *= float32(math.Ldexp(1, r.Intn(21)-10))
				}
			}
			h := given{g.p, slices.Clone(g.l), g.c, g.at}
			k := []int{-20, 20, r.Intn(41) - 20}[r.Intn(3)]
			for i := range h.l {
				for _, x := range []*float32{&h.l[i].X, &h.l[i].Y, &h.l[i].Turn} {
					*x *= float32(math.Ldexp(1, k))
				}
			}
			a, b := asked(g), asked(h)
			want := timesAll(a, k)
			want.exact = b.exact
			if !sameAnswers(b, want) {
				t.Fatal(g, a, b)
			}
			exactlyTimes(t, a.exact, b.exact, k)
			met[a.errors[1]]++
		}
	}
	if met[api.OK] < 80 {
		t.Error(met)
	}
}

// P5: members turned about go the same, to the bit.
func TestTurnedAbout(t *testing.T) {
	r := rand.New(rand.NewSource(34))
	for range 150 {
		g := anyGiven(t, r, 5, r.Intn(20))
		h := given{copied(g.p), g.l, g.c, g.at}
		k := r.Intn(len(g.p.Members))
		for i, m := range g.p.Members {
			if i == k || r.Intn(2) == 0 {
				h.p.Members[i].A, h.p.Members[i].B, h.p.Members[i].HingeA, h.p.Members[i].HingeB = m.B, m.A, m.HingeB, m.HingeA
			}
		}
		if a, b := asked(g), asked(h); !sameAnswers(a, b) {
			t.Fatal(g, a, b)
		}
	}
}

// P5: a plan that is moved as a whole goes the same, to the bit.
func TestMovedAsAWhole(t *testing.T) {
	r := rand.New(rand.NewSource(35))
	met := 0
	for range 300 {
		g := anyGiven(t, r, 4, r.Intn(20))
		h := given{copied(g.p), g.l, g.c, g.at}
		x, y := int32(r.Intn(1<<20)-1<<19), int32(r.Intn(1<<20)-1<<19)
		for i := range h.p.Joints {
			h.p.Joints[i].X += x
			h.p.Joints[i].Y += y
		}
		if e, _ := bars.Check(h.p); e != api.OK {
			continue
		}
		met++
		if a, b := asked(g), asked(h); !sameAnswers(a, b) {
			t.Fatal(g, a, b)
		}
	}
	if met < 100 {
		t.Error(met)
	}
}

// shuffled is g with its members in another order, its loads and its exact plan with them.
func shuffled(t *testing.T, r *rand.Rand, g given) given {
	t.Helper()
	h := given{p: copied(g.p), l: slices.Clone(g.l), c: g.c}
	springs, _ := parts(t, g.p)
	place := make([]int, len(g.p.Members)) // where each member goes
	for to, from := range r.Perm(len(g.p.Members)) {
		h.p.Members[to] = g.p.Members[from]
		place[from] = to
		for k, s := range springs {
			if s.Member == from {
				h.at = append(h.at, g.at[k])
			}
		}
	}
	for i, load := range h.l {
		if load.Kind == api.LoadUniform {
			h.l[i].At = place[load.At]
		}
	}
	return h
}

// P5: members in another order make the same exact plans: the spans of both have the moves in common.
func TestMembersInAnyOrder(t *testing.T) {
	r := rand.New(rand.NewSource(36))
	both := 0
	for range 150 {
		g := anyGiven(t, r, 5, 5)
		h := shuffled(t, r, g)
		a, b := asked(g), asked(h)
		if a.errors[2] != b.errors[2] || !slices.EqualFunc(a.exact, b.exact, sameRatio) {
			t.Fatal(g, h, a, b)
		}
		if a.errors != [3]api.Errno{} || b.errors != [3]api.Errno{} {
			continue
		}
		both++
		within(t, a.solve, g)
		within(t, b.solve, g)
	}
	if both < 100 {
		t.Error(both)
	}
}

// P24.1 to P24.3: loads and parts in another order go the same, to the bit.
func TestLoadsInAnyOrder(t *testing.T) {
	r := rand.New(rand.NewSource(37))
	for range 100 {
		g := anyGiven(t, r, 5, 5)
		want := asked(g)
		h := given{g.p, slices.Clone(g.l), combo(slices.Clone(g.c.Parts)...), g.at}
		r.Shuffle(len(h.l), func(i, k int) { h.l[i], h.l[k] = h.l[k], h.l[i] })
		r.Shuffle(len(h.c.Parts), func(i, k int) { h.c.Parts[i], h.c.Parts[k] = h.c.Parts[k], h.c.Parts[i] })
		if got := asked(h); !sameAnswers(got, want) {
			t.Fatal(g, got, want)
		}
		h.c.Name = ""
		if got := asked(h); !sameAnswers(got, want) {
			t.Fatal("the combination's name counts")
		}
	}
}

// P24.4: one more thing held, or one more member, keeps a plan that doesn't move by itself so.
func TestMoreIsHeld(t *testing.T) {
	r := rand.New(rand.NewSource(38))
	for range 100 {
		g := anyGiven(t, r, 5, 0)
		g.l, g.c = nil, combo()
		k := r.Intn(len(g.p.Joints))
		g.p = spoilt(g.p, func(p *api.Plan) { p.Joints[k].Fix |= uint8(1 + r.Intn(7)) })
		g.p.Members = append(g.p.Members, anyMember(r, len(g.p.Joints), 0))
		g.p.Members[len(g.p.Members)-1].Name = "more"
		if e := near(t, g); e == api.ErrMotion || len(g.p.Members) > api.MaxMembers {
			t.Fatal(g, e)
		}
	}
}
