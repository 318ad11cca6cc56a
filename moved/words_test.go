package moved_test

import (
	"math"
	"math/big"
	"math/rand"
	"slices"
	"testing"

	"girder/api"
	"girder/bars"
	"girder/bound"
	"girder/dyad"
	"girder/loads"
	"girder/lower"
	"girder/motion"
	"girder/moved"
	"girder/ratio"
	"girder/refine"
	"girder/span"
	"girder/stiff"
)

const (
	edge     = int32(1 << 20) // the greatest size of a coordinate
	least    = 0x1p-60        // of E, Area, I
	most     = 0x1p60
	steps    = 8 // of refinement
	fixPoint = api.FixX + api.FixY
	fixAll   = fixPoint + api.FixTurn
)

var noNumber = math.NaN()

// bar is one whose E times Area is so much.
func bar(a, b int, strong float64) api.Member {
	return api.Member{Kind: api.Bar, A: a, B: b, E: strong, Area: 1}
}

// beam is one whose stiffnesses are exact floats, if it is a power of two long.
func beam(a, b int) api.Member {
	return api.Member{Kind: api.Beam, A: a, B: b, E: 1, Area: 64, I: 64}
}

// hinged is a beam with hinges at the ends told.
func hinged(a, b int, atA, atB bool) api.Member {
	m := beam(a, b)
	m.HingeA, m.HingeB = atA, atB
	return m
}

func joint(x, y int32, fix uint8) api.Joint { return api.Joint{X: x, Y: y, Fix: fix} }

// name is one for each number up to 675.
func name(i int) string { return string([]byte{'m', 'a' + byte(i/26), 'a' + byte(i%26)}) }

// made is a plan of these, each with a name of its own.
func made(joints []api.Joint, members ...api.Member) api.Plan {
	p := api.Plan{Joints: slices.Clone(joints), Members: slices.Clone(members)}
	for i := range p.Joints {
		p.Joints[i].Name = name(i)
	}
	for i := range p.Members {
		p.Members[i].Name = name(i)
	}
	return p
}

// chapter is the plan of the chapter's examples: a bar from a held at 0 0 to b at 4 0, whose stiffness is 4.
func chapter() api.Plan {
	m := api.Member{Kind: api.Bar, A: 0, B: 1, E: 2, Area: 8}
	return made([]api.Joint{joint(0, 0, fixPoint), joint(4, 0, api.FixY)}, m)
}

// loose is the chapter's plan with nothing of b held: it moves by itself.
func loose() api.Plan {
	p := chapter()
	p.Joints[1].Fix = 0
	return p
}

// row is bars in a row, one unit each, along x, from what is held: each joint has one unknown.
func row(strong ...float64) api.Plan {
	l := []api.Joint{joint(0, 0, fixPoint)}
	var m []api.Member
	for i, s := range strong {
		l = append(l, joint(int32(i)+1, 0, api.FixY))
		m = append(m, bar(i, i+1, s))
	}
	return made(l, m...)
}

// slanted is bars, each from a joint held at some place of its own to the same joint, of which x alone isn't held: each one goes 1 along x and 1 along y.
func slanted(strong ...float64) api.Plan {
	l := []api.Joint{joint(0, 0, api.FixY)}
	var m []api.Member
	for i, s := range strong {
		l = append(l, joint(int32(i%2)*2-1, int32(i/2)*2-1, fixPoint))
		m = append(m, bar(i+1, 0, s))
	}
	return made(l, m...)
}

func copied(p api.Plan) api.Plan {
	return api.Plan{Joints: slices.Clone(p.Joints), Members: slices.Clone(p.Members)}
}

func force(c string, at int, x, y, turn float32) api.Load {
	return api.Load{Case: c, Kind: api.LoadForce, At: at, X: x, Y: y, Turn: turn}
}

func uniform(c string, at int, y float32) api.Load {
	return api.Load{Case: c, Kind: api.LoadUniform, At: at, Y: y}
}

func part(c string, factor float64) api.Part { return api.Part{Case: c, Factor: factor} }

func combo(parts ...api.Part) api.Combo { return api.Combo{Name: "c", Parts: parts} }

// once is the combination of one case, once.
func once(c string) api.Combo { return combo(part(c, 1)) }

// given is all that is handed in to all three calls.
type given struct {
	p  api.Plan
	l  []api.Load
	c  api.Combo
	at []api.Dyad
}

// value is the value of a right dyad.
func value(d api.Dyad) *big.Rat {
	v := new(big.Rat).SetInt(number(d.Mag))
	power := new(big.Int).Lsh(big.NewInt(1), uint(max(d.Exp, -d.Exp)))
	if d.Exp < 0 {
		v.Quo(v, new(big.Rat).SetInt(power))
	} else {
		v.Mul(v, new(big.Rat).SetInt(power))
	}
	if d.Neg {
		v.Neg(v)
	}
	return v
}

// number is the value of limbs.
func number(l []uint64) *big.Int {
	v := new(big.Int)
	for _, limb := range slices.Backward(l) {
		v.Lsh(v, 64).Or(v, new(big.Int).SetUint64(limb))
	}
	return v
}

// fraction is the value of a right ratio.
func fraction(r api.Ratio) *big.Rat {
	v := new(big.Rat).SetFrac(number(r.Num), number(r.Den))
	if r.Neg {
		v.Neg(v)
	}
	return v
}

func fractions(l []api.Ratio) []*big.Rat {
	var out []*big.Rat
	for _, r := range l {
		out = append(out, fraction(r))
	}
	return out
}

// exactly is a finite float as a fraction.
func exactly(x float64) *big.Rat { return new(big.Rat).SetFloat64(x) }

// holds tells whether v lies in s.
func holds(s api.Span, v *big.Rat) bool {
	return exactly(s.Lo).Cmp(v) <= 0 && v.Cmp(exactly(s.Hi)) <= 0
}

// dyadOf is a finite float as a dyad.
func dyadOf(x float64) api.Dyad {
	d, _ := dyad.Of(x)
	return d
}

func dyads(l ...float64) []api.Dyad {
	var out []api.Dyad
	for _, x := range l {
		out = append(out, dyadOf(x))
	}
	return out
}

// parts is the springs and the unknowns of a plan that may be.
func parts(t *testing.T, p api.Plan) ([]api.Spring, api.Places) {
	t.Helper()
	springs, e := bars.Springs(p)
	places, f := bars.Unknowns(p)
	if e != api.OK || f != api.OK {
		t.Fatal(p, e, f)
	}
	return springs, places
}

// exactPlan is the exact plan whose springs have what choose tells of their spans.
func exactPlan(t *testing.T, p api.Plan, choose func(s api.Span) api.Dyad) []api.Dyad {
	t.Helper()
	springs, _ := parts(t, p)
	var at []api.Dyad
	for _, s := range springs {
		at = append(at, choose(s.S))
	}
	return at
}

func lowEnd(s api.Span) api.Dyad  { return dyadOf(s.Lo) }
func highEnd(s api.Span) api.Dyad { return dyadOf(s.Hi) }

// between is a number of s: Lo, and so many 64ths of what lies above it.
func between(s api.Span, part int64) api.Dyad {
	wide, _ := dyad.Sub(dyadOf(s.Hi), dyadOf(s.Lo))
	some, _ := dyad.Mul(wide, api.Dyad{Mag: []uint64{uint64(part)}})
	some.Exp -= 6
	some, _ = dyad.Norm(some)
	sum, _ := dyad.Add(dyadOf(s.Lo), some)
	return sum
}

// anyEnd is Lo or Hi, or something between.
func anyEnd(r *rand.Rand) func(s api.Span) api.Dyad {
	return func(s api.Span) api.Dyad {
		switch r.Intn(3) {
		case 0:
			return lowEnd(s)
		case 1:
			return highEnd(s)
		}
		return between(s, 1+r.Int63n(63))
	}
}

// comesTo is the exact stiffness times moves, by DOC.md's words: over all springs how stiff it is, times its stretch, times its row.
func comesTo(t *testing.T, p api.Plan, at []api.Dyad, moves []*big.Rat) []*big.Rat {
	t.Helper()
	springs, places := parts(t, p)
	out := make([]*big.Rat, places.N)
	for i := range out {
		out[i] = new(big.Rat)
	}
	for k, s := range springs {
		var unknowns []int
		for _, joint := range []int{p.Members[s.Member].A, p.Members[s.Member].B} {
			unknowns = append(unknowns, places.Of[joint][:]...)
		}
		stretch := new(big.Rat)
		for i, unknown := range unknowns {
			if unknown >= 0 {
				stretch.Add(stretch, new(big.Rat).Mul(big.NewRat(s.Row[i], 1), moves[unknown]))
			}
		}
		bears := stretch.Mul(stretch, value(at[k]))
		for i, unknown := range unknowns {
			if unknown >= 0 {
				out[unknown].Add(out[unknown], new(big.Rat).Mul(big.NewRat(s.Row[i], 1), bears))
			}
		}
	}
	return out
}

func equal(a, b []*big.Rat) bool {
	return slices.EqualFunc(a, b, func(x, y *big.Rat) bool { return x.Cmp(y) == 0 })
}

func same(a, b float64) bool { return math.Float64bits(a) == math.Float64bits(b) }

func sameSpan(a, b api.Span) bool { return same(a.Lo, b.Lo) && same(a.Hi, b.Hi) }

func sameRatio(a, b api.Ratio) bool {
	return a.Neg == b.Neg && slices.Equal(a.Num, b.Num) && slices.Equal(a.Den, b.Den)
}

// answers is all that is told.
type answers struct {
	near   []float64
	solve  api.Moved
	exact  []api.Ratio
	errors [3]api.Errno
}

func asked(g given) answers {
	var a answers
	a.near, a.errors[0] = moved.Near(g.p, g.l, g.c)
	a.solve, a.errors[1] = moved.Solve(g.p, g.l, g.c)
	a.exact, a.errors[2] = moved.Exact(g.p, g.l, g.c, g.at)
	return a
}

func sameAnswers(a, b answers) bool {
	return a.errors == b.errors && slices.EqualFunc(a.near, b.near, same) && slices.EqualFunc(a.solve.Near, b.solve.Near, same) &&
		slices.EqualFunc(a.solve.Sure, b.solve.Sure, sameSpan) && slices.EqualFunc(a.exact, b.exact, sameRatio)
}

// nearByWords is what Near must tell of what loads.Near does not refuse.
func nearByWords(t *testing.T, g given) ([]float64, api.Errno) {
	t.Helper()
	b, e := loads.Near(g.p, g.l, g.c)
	motions, f := motion.Motions(g.p)
	m, h := stiff.Near(g.p)
	switch {
	case e != api.OK || f != api.OK || h != api.OK:
		t.Fatal(g, e, f, h)
	case len(motions) > 0:
		return nil, api.ErrMotion
	}
	factor, e, _ := lower.Factor(m)
	if e != api.OK {
		return nil, e
	}
	x, _, e := refine.Until(m, factor, b, steps)
	return x, e
}

// near fails unless Near tells what the words say, to the bit. It tells the error.
func near(t *testing.T, g given) api.Errno {
	t.Helper()
	want, f := nearByWords(t, g)
	got, e := moved.Near(g.p, g.l, g.c)
	if e != f || !slices.EqualFunc(got, want, same) {
		t.Fatalf("Near(%+v): %v, %d, not %v, %d", g, got, e, want, f)
	}
	return e
}

// solve fails unless Solve tells what the words say, to the bit. It tells the error.
func solve(t *testing.T, g given) api.Errno {
	t.Helper()
	var want api.Moved
	x, f := nearByWords(t, g)
	if f == api.OK {
		a, _ := stiff.Sure(g.p)
		b, _ := loads.Sure(g.p, g.l, g.c)
		want = api.Moved{Near: x}
		if want.Sure, f = bound.Enclose(a, b); f != api.OK {
			want, f = api.Moved{}, api.ErrBound
		}
	}
	got, e := moved.Solve(g.p, g.l, g.c)
	if e != f || !slices.EqualFunc(got.Near, want.Near, same) || !slices.EqualFunc(got.Sure, want.Sure, sameSpan) {
		t.Fatalf("Solve(%+v): %v, %d, not %v, %d", g, got, e, want, f)
	}
	for _, s := range got.Sure {
		if !span.Right(s) {
			t.Fatal("not right:", s)
		}
	}
	return e
}

// exact fails unless Exact tells, in right ratios, what the stiffness sends to the loads. (Of a plan without a motion that is one list of numbers.)
func exact(t *testing.T, g given) {
	t.Helper()
	_, places := parts(t, g.p)
	b, f := loads.Exact(g.p, g.l, g.c)
	got, e := moved.Exact(g.p, g.l, g.c, g.at)
	if e != api.OK || f != api.OK || len(got) != places.N {
		t.Fatalf("Exact(%+v): %v, %d, %d", g, got, e, f)
	}
	for _, r := range got {
		if !ratio.Right(r) {
			t.Fatal("not right:", r)
		}
	}
	if sent := comesTo(t, g.p, g.at, fractions(got)); !equal(sent, fractions(b)) {
		t.Fatalf("Exact(%+v): %v, which is sent to %v, not to %v", g, got, sent, b)
	}
}

// refused fails unless the calls tell these errors, and nothing beside them.
func refused(t *testing.T, g given, want [3]api.Errno) {
	t.Helper()
	a := asked(g)
	if a.errors != want {
		t.Fatalf("%d, not %d: %+v", a.errors, want, g)
	}
	if want[0] != api.OK && len(a.near) > 0 || want[1] != api.OK && len(a.solve.Near)+len(a.solve.Sure) > 0 || want[2] != api.OK && len(a.exact) > 0 {
		t.Fatalf("%+v beside an error: %+v", a, g)
	}
}

// refusedAll is refused with the same error of all three.
func refusedAll(t *testing.T, g given, want api.Errno) {
	t.Helper()
	refused(t, g, [3]api.Errno{want, want, want})
}

// goes fails unless the exact moves are these, Near the floats nearest to them, or next to those, and Sure narrow spans that hold them.
func goes(t *testing.T, g given, want ...*big.Rat) {
	t.Helper()
	a := asked(g)
	if a.errors != [3]api.Errno{} || !equal(fractions(a.exact), want) || len(a.near) != len(want) || len(a.solve.Sure) != len(want) {
		t.Fatalf("%+v: %+v, not %v", g, a, want)
	}
	for k, w := range want {
		x, _ := w.Float64()
		wide := 1e-12 * max(math.Abs(x), 1)
		s := a.solve.Sure[k]
		if math.Abs(a.near[k]-x) > wide || !same(a.solve.Near[k], a.near[k]) || !holds(s, w) || s.Hi-s.Lo > wide {
			t.Fatalf("%+v: %+v, not %v", g, a, want)
		}
	}
}

func over(num, den int64) *big.Rat { return big.NewRat(num, den) }

func whole(n int64) *big.Rat { return big.NewRat(n, 1) }

// anyCoordinate is a little one, now and then one of any size.
func anyCoordinate(r *rand.Rand) int32 {
	switch r.Intn(12) {
	case 0:
		return int32(r.Intn(2<<20+1)) - edge
	case 1, 2:
		return int32(r.Intn(2001)) - 1000
	}
	return int32(r.Intn(9)) - 4
}

func anyJoints(r *rand.Rand, n int) []api.Joint {
	var l []api.Joint
	for len(l) < n {
		j := joint(anyCoordinate(r), anyCoordinate(r), 0)
		if len(l) == 0 || r.Intn(3) == 0 {
			j.Fix = uint8(r.Intn(8))
		}
		if !slices.ContainsFunc(l, func(k api.Joint) bool { return k.X == j.X && k.Y == j.Y }) {
			l = append(l, j)
		}
	}
	return l
}

// anySize is one from 2^-wide to 2^wide.
func anySize(r *rand.Rand, wide int) float64 {
	if wide == 0 || r.Intn(4) == 0 {
		return 1
	}
	return math.Ldexp(1+r.Float64(), r.Intn(2*wide)-wide)
}

// anyMember is one of any kind between two of n joints, whose numbers are from 2^-wide to 2^wide.
func anyMember(r *rand.Rand, n, wide int) api.Member {
	a := r.Intn(n)
	b := (a + 1 + r.Intn(n-1)) % n
	m := bar(a, b, 1)
	if r.Intn(2) == 0 {
		m = hinged(a, b, r.Intn(3) == 0, r.Intn(3) == 0)
		m.I = anySize(r, wide)
	}
	m.E, m.Area = anySize(r, wide), anySize(r, wide)
	return m
}

// anyPlan is one that may be, of two to so many joints, whose numbers are from 2^-wide to 2^wide.
func anyPlan(r *rand.Rand, joints, wide int) api.Plan {
	n := 2 + r.Intn(joints-1)
	l := make([]api.Member, n+r.Intn(2*n))
	for i := range l {
		l[i] = anyMember(r, n, wide)
	}
	return made(anyJoints(r, n), l...)
}

// still tells whether nothing of p moves by itself.
func still(p api.Plan) bool {
	motions, e := motion.Motions(p)
	return e == api.OK && len(motions) == 0
}

// stillPlan is anyPlan, of which nothing moves by itself.
func stillPlan(r *rand.Rand, joints, wide int) api.Plan {
	for {
		if p := anyPlan(r, joints, wide); still(p) {
			return p
		}
	}
}

// caseName is one for each number up to 25.
func caseName(i int) string { return string([]byte{'k', 'a' + byte(i)}) }

// anyLoad is a number of a load: a whole one, or any from 2^-20 to 2^20 in size.
func anyLoad(r *rand.Rand) float32 {
	switch r.Intn(6) {
	case 0:
		return 0
	case 1, 2:
		return float32(r.Intn(2001) - 1000)
	}
	return float32(anySize(r, 20)) * float32(1-2*r.Intn(2))
}

// anyLoads is so many loads of so many cases that may be upon p.
func anyLoads(t *testing.T, r *rand.Rand, p api.Plan, many, cases int) []api.Load {
	t.Helper()
	_, places := parts(t, p)
	l := make([]api.Load, many)
	for i := range l {
		c := caseName(r.Intn(cases))
		at := r.Intn(len(p.Joints))
		switch {
		case r.Intn(3) == 0:
			l[i] = uniform(c, r.Intn(len(p.Members)), anyLoad(r))
		case places.Of[at][2] >= 0 || p.Joints[at].Fix >= api.FixTurn:
			l[i] = force(c, at, anyLoad(r), anyLoad(r), anyLoad(r))
		default:
			l[i] = force(c, at, anyLoad(r), anyLoad(r), 0)
		}
	}
	return l
}

// anyCombo is one of some of the cases of l.
func anyCombo(r *rand.Rand, l []api.Load) api.Combo {
	var c api.Combo
	for _, x := range loads.Cases(l) {
		if r.Intn(5) > 0 && len(c.Parts) < api.MaxCases {
			factor := []float64{1, 1.35, 1.5, 0.75, -1, 0, 2*r.Float64() - 1}[r.Intn(7)]
			c.Parts = append(c.Parts, part(x, factor))
		}
	}
	return c
}

// anyGiven is loads upon a plan of which nothing moves by itself, and an exact plan of it.
func anyGiven(t *testing.T, r *rand.Rand, joints, wide int) given {
	t.Helper()
	g := given{p: stillPlan(r, joints, wide)}
	g.l = anyLoads(t, r, g.p, 1+r.Intn(12), 4)
	g.c = anyCombo(r, g.l)
	g.at = exactPlan(t, g.p, anyEnd(r))
	return g
}
