package loads_test

import (
	"math"
	"math/big"
	"math/rand"
	"slices"
	"testing"

	"girder/api"
	"girder/bars"
	"girder/loads"
	"girder/ratio"
)

const (
	edge       = int32(1 << 20) // the greatest size of a coordinate
	mostLoad   = float32(0x1p60)
	mostFactor = 0x1p20
	tiny       = float32(0x1p-149) // the least narrow float above 0
	fixPoint   = api.FixX + api.FixY
	fixAll     = fixPoint + api.FixTurn
)

var (
	noNumber    = float32(math.NaN())
	infinity    = float32(math.Inf(1))
	minusNought = float32(math.Copysign(0, -1))
	tooGreat    = math.Nextafter32(mostLoad, infinity)
)

func bar(a, b int) api.Member { return api.Member{Kind: api.Bar, A: a, B: b, E: 1, Area: 1} }

// beam is one from the joint a to the joint b, with hinges where they are told.
func beam(a, b int, hingeA, hingeB bool) api.Member {
	return api.Member{Kind: api.Beam, A: a, B: b, HingeA: hingeA, HingeB: hingeB, E: 1, Area: 1, I: 1}
}

func joint(x, y int32, fix uint8) api.Joint { return api.Joint{X: x, Y: y, Fix: fix} }

// name is one for each number up to 675.
func name(i int) string { return string([]byte{'m', 'a' + byte(i/26), 'a' + byte(i%26)}) }

// made is a plan of these, each with a name of its own.
func made(joints []api.Joint, members ...api.Member) api.Plan {
	p := api.Plan{Joints: slices.Clone(joints), Members: slices.Clone(members)}
	for i := range p.Joints {
		p.Joints[i].Name = name(i)
	}
	for i := range p.Members {
		p.Members[i].Name = name(i)
	}
	return p
}

// chapter is the plan of the chapter's examples: a held at 0 0, b at 8 0, c at 8 6, a beam from a to b, one from b to c.
func chapter() api.Plan {
	return made([]api.Joint{joint(0, 0, fixAll), joint(8, 0, 0), joint(8, 6, 0)}, beam(0, 1, false, false), beam(1, 2, false, false))
}

// lone is a plan of one member between two joints, the first one held, the other one so far away.
func lone(dx, dy int32, m api.Member) api.Plan {
	return made([]api.Joint{joint(-3, 7, fixAll), joint(dx-3, dy+7, 0)}, m)
}

func copied(p api.Plan) api.Plan {
	return api.Plan{Joints: slices.Clone(p.Joints), Members: slices.Clone(p.Members)}
}

func force(c string, at int, x, y, turn float32) api.Load {
	return api.Load{Case: c, Kind: api.LoadForce, At: at, X: x, Y: y, Turn: turn}
}

func uniform(c string, at int, y float32) api.Load {
	return api.Load{Case: c, Kind: api.LoadUniform, At: at, Y: y}
}

func part(c string, factor float64) api.Part { return api.Part{Case: c, Factor: factor} }

func combo(parts ...api.Part) api.Combo { return api.Combo{Name: "c", Parts: parts} }

// once is the combination of one case, once.
func once(c string) api.Combo { return combo(part(c, 1)) }

func over(num, den int64) *big.Rat { return big.NewRat(num, den) }

func whole(n int64) *big.Rat { return big.NewRat(n, 1) }

// exactly is a finite float as a fraction.
func exactly(x float64) *big.Rat { return new(big.Rat).SetFloat64(x) }

// counted is a narrow float as a fraction.
func counted(f float32) *big.Rat { return exactly(float64(f)) }

func sum(l ...*big.Rat) *big.Rat {
	s := new(big.Rat)
	for _, x := range l {
		s.Add(s, x)
	}
	return s
}

func times(l ...*big.Rat) *big.Rat {
	s := whole(1)
	for _, x := range l {
		s.Mul(s, x)
	}
	return s
}

// brought is what is brought to a joint: x, y, turn.
type brought = [3]*big.Rat

// bring is whole numbers as what is brought.
func bring(x, y, turn int64) brought { return brought{whole(x), whole(y), whole(turn)} }

// nothing is what is brought to so many joints without loads.
func nothing(many int) []brought {
	all := make([]brought, many)
	for i := range all {
		all[i] = bring(0, 0, 0)
	}
	return all
}

// plus is both, number by number.
func plus(a, b brought) brought {
	return brought{sum(a[0], b[0]), sum(a[1], b[1]), sum(a[2], b[2])}
}

func scaled(factor *big.Rat, b brought) brought {
	return brought{times(factor, b[0]), times(factor, b[1]), times(factor, b[2])}
}

// uniformByWords is DOC.md's words of what a uniform load y upon m, from a to b, does at both ends.
func uniformByWords(m api.Member, a, b api.Joint, y *big.Rat) (atA, atB brought) {
	dx, dy := whole(int64(b.X)-int64(a.X)), whole(int64(b.Y)-int64(a.Y))
	level := new(big.Rat).Abs(dx)
	f := [2]*big.Rat{whole(0), times(whole(-1), y, level)}
	across := [2]*big.Rat{new(big.Rat).Neg(dy), dx}
	along := sum(times(f[0], across[0]), times(f[1], across[1]))
	often := along.Quo(along, sum(times(dx, dx), times(dy, dy)))
	moment := times(y, dx, level)
	end := func(eighth int64, turn *big.Rat) brought {
		at := func(k int) *big.Rat {
			return sum(times(over(1, 2), f[k]), times(over(eighth, 8), often, across[k]))
		}
		return brought{at(0), at(1), times(turn, moment)}
	}
	switch {
	case m.Kind == api.Bar, m.HingeA && m.HingeB:
		return end(0, whole(0)), end(0, whole(0))
	case m.HingeB:
		return end(1, over(-1, 8)), end(-1, whole(0))
	case m.HingeA:
		return end(-1, whole(0)), end(1, over(1, 8))
	}
	return end(0, over(-1, 12)), end(0, over(1, 12))
}

// caseByWords is what all loads of a case bring to each joint.
func caseByWords(p api.Plan, l []api.Load, c string) []brought {
	all := nothing(len(p.Joints))
	for _, load := range l {
		switch {
		case load.Case != c:
		case load.Kind == api.LoadForce:
			all[load.At] = plus(all[load.At], brought{counted(load.X), counted(load.Y), counted(load.Turn)})
		default:
			m := p.Members[load.At]
			a, b := uniformByWords(m, p.Joints[m.A], p.Joints[m.B], counted(load.Y))
			all[m.A], all[m.B] = plus(all[m.A], a), plus(all[m.B], b)
		}
	}
	return all
}

// byWords is what c comes to at each joint.
func byWords(p api.Plan, l []api.Load, c api.Combo) []brought {
	all := nothing(len(p.Joints))
	for _, x := range c.Parts {
		for i, b := range caseByWords(p, l, x.Case) {
			all[i] = plus(all[i], scaled(exactly(x.Factor), b))
		}
	}
	return all
}

// limbs is a whole number not below 0 as limbs.
func limbs(v *big.Int) []uint64 {
	var l []uint64
	low := new(big.Int).SetUint64(math.MaxUint64)
	for rest := new(big.Int).Set(v); rest.Sign() > 0; rest.Rsh(rest, 64) {
		l = append(l, new(big.Int).And(rest, low).Uint64())
	}
	return l
}

// right is the right ratio of v.
func right(v *big.Rat) api.Ratio {
	return api.Ratio{Neg: v.Sign() < 0, Num: limbs(new(big.Int).Abs(v.Num())), Den: limbs(v.Denom())}
}

// value is the value of a right ratio.
func value(r api.Ratio) *big.Rat {
	number := func(l []uint64) *big.Int {
		v := new(big.Int)
		for _, limb := range slices.Backward(l) {
			v.Lsh(v, 64).Or(v, new(big.Int).SetUint64(limb))
		}
		return v
	}
	v := new(big.Rat).SetFrac(number(r.Num), number(r.Den))
	if r.Neg {
		v.Neg(v)
	}
	return v
}

// around is v rounded Down, Up and to Nearest. (None here is as great as the greatest float.)
func around(v *big.Rat) (down, up, near float64) {
	near, _ = v.Float64()
	down, up = near, near
	switch exactly(near).Cmp(v) {
	case -1:
		up = math.Nextafter(near, math.Inf(1))
	case 1:
		down = math.Nextafter(near, math.Inf(-1))
	}
	return down, up, near
}

func same(a, b float64) bool { return math.Float64bits(a) == math.Float64bits(b) }

func sameSpan(a, b api.Span) bool { return same(a.Lo, b.Lo) && same(a.Hi, b.Hi) }

func sameRatio(a, b api.Ratio) bool {
	return a.Neg == b.Neg && slices.Equal(a.Num, b.Num) && slices.Equal(a.Den, b.Den)
}

func sameBrought(a, b [3]api.Ratio) bool {
	return sameRatio(a[0], b[0]) && sameRatio(a[1], b[1]) && sameRatio(a[2], b[2])
}

// ratios is what is brought to each joint, as ratios, told by words of a fraction.
func ratios(l []brought) [][3]api.Ratio {
	out := make([][3]api.Ratio, len(l))
	for i, b := range l {
		out[i] = [3]api.Ratio{right(b[0]), right(b[1]), right(b[2])}
	}
	return out
}

// atUnknowns is what of l stands at p's unknowns.
func atUnknowns(t *testing.T, p api.Plan, l []brought) []*big.Rat {
	t.Helper()
	places, e := bars.Unknowns(p)
	if e != api.OK {
		t.Fatal(p, e)
	}
	var out []*big.Rat // unknowns are numbered joint by joint, x, y, turn
	for i, of := range places.Of {
		for k, unknown := range of {
			if unknown >= 0 {
				out = append(out, l[i][k])
			}
		}
	}
	return out
}

// answers is all that is told of a combination.
type answers struct {
	joints [][3]api.Ratio
	exact  []api.Ratio
	sure   []api.Span
	near   []float64
	errors [4]api.Errno
}

func asked(p api.Plan, l []api.Load, c api.Combo) answers {
	var a answers
	a.joints, a.errors[0] = loads.Joints(p, l, c)
	a.exact, a.errors[1] = loads.Exact(p, l, c)
	a.sure, a.errors[2] = loads.Sure(p, l, c)
	a.near, a.errors[3] = loads.Near(p, l, c)
	return a
}

func sameAnswers(a, b answers) bool {
	return a.errors == b.errors && slices.EqualFunc(a.joints, b.joints, sameBrought) && slices.EqualFunc(a.exact, b.exact, sameRatio) &&
		slices.EqualFunc(a.sure, b.sure, sameSpan) && slices.EqualFunc(a.near, b.near, same)
}

// wanted is what must be told of a combination that comes to that at each joint.
func wanted(t *testing.T, p api.Plan, l []brought) answers {
	t.Helper()
	a := answers{joints: ratios(l)}
	for _, v := range atUnknowns(t, p, l) {
		down, up, near := around(v)
		a.exact = append(a.exact, right(v))
		a.sure = append(a.sure, api.Span{Lo: down, Hi: up})
		a.near = append(a.near, near)
	}
	return a
}

// tells fails unless all four calls tell of c, to the bit, that it comes to that at each joint.
func tells(t *testing.T, p api.Plan, l []api.Load, c api.Combo, want ...brought) {
	t.Helper()
	got, all := asked(p, l, c), wanted(t, p, want)
	if !sameAnswers(got, all) {
		t.Fatalf("%+v of %+v upon %+v:\n%v, not\n%v", c, l, p, got, all)
	}
	for _, b := range got.joints {
		if !ratio.Right(b[0]) || !ratio.Right(b[1]) || !ratio.Right(b[2]) {
			t.Fatal("not right:", b)
		}
	}
}

// checked fails unless all is told as the words say.
func checked(t *testing.T, p api.Plan, l []api.Load, c api.Combo) {
	t.Helper()
	tells(t, p, l, c, byWords(p, l, c)...)
}

// refused fails unless all four calls tell that error, and nothing beside it.
func refused(t *testing.T, p api.Plan, l []api.Load, c api.Combo, want api.Errno) {
	t.Helper()
	got := asked(p, l, c)
	if got.errors != [4]api.Errno{want, want, want, want} || len(got.joints)+len(got.exact)+len(got.sure)+len(got.near) > 0 {
		t.Fatalf("%+v of %+v upon %+v: %v, not %d", c, l, p, got, want)
	}
}

// looked fails unless Check tells that error and that place, and the other calls that error.
func looked(t *testing.T, p api.Plan, l []api.Load, want api.Errno, place int) {
	t.Helper()
	if e, at := loads.Check(p, l); e != want || at != place {
		t.Fatalf("Check(%+v, %+v): %d, %d, not %d, %d", p, l, e, at, want, place)
	}
	if want == api.OK {
		checked(t, p, l, combo())
		return
	}
	for _, c := range []api.Combo{combo(), once("w"), combo(part("q", math.NaN())), combo(make([]api.Part, 17)...)} {
		refused(t, p, l, c, want)
	}
}

// anyCoordinate is a little one, or one of any size, or at an edge.
func anyCoordinate(r *rand.Rand) int32 {
	switch r.Intn(8) {
	case 0, 1:
		return int32(r.Intn(2<<20+1)) - edge
	case 2:
		return edge - 2*edge*int32(r.Intn(2))
	}
	return int32(r.Intn(9)) - 4
}

func anyJoints(r *rand.Rand, n int) []api.Joint {
	var l []api.Joint
	for len(l) < n {
		j := joint(anyCoordinate(r), anyCoordinate(r), 0)
		if r.Intn(3) == 0 {
			j.Fix = uint8(r.Intn(8))
		}
		if !slices.ContainsFunc(l, func(k api.Joint) bool { return k.X == j.X && k.Y == j.Y }) {
			l = append(l, j)
		}
	}
	return l
}

// anyMember is one of any kind between two of n joints.
func anyMember(r *rand.Rand, n int) api.Member {
	a := r.Intn(n)
	b := (a + 1 + r.Intn(n-1)) % n
	if r.Intn(4) == 0 {
		return bar(a, b)
	}
	return beam(a, b, r.Intn(2) == 0, r.Intn(2) == 0)
}

// anyPlan is one that may be, of two to so many joints and one to so many members.
func anyPlan(r *rand.Rand, joints, members int) api.Plan {
	n := 2 + r.Intn(joints-1)
	l := make([]api.Member, 1+r.Intn(members))
	for i := range l {
		l[i] = anyMember(r, n)
	}
	return made(anyJoints(r, n), l...)
}

// anyNumber is one that a load may have, of any size: subnormal ones, noughts, and both edges too.
func anyNumber(r *rand.Rand) float32 {
	switch r.Intn(8) {
	case 0:
		return []float32{0, minusNought, mostLoad, -mostLoad, tiny, -tiny}[r.Intn(6)]
	case 1, 2:
		return float32(r.Intn(2001) - 1000)
	case 3:
		return float32(r.NormFloat64())
	}
	return float32(math.Ldexp(1+r.Float64(), r.Intn(210)-150)) * float32(1-2*r.Intn(2))
}

// anyFactor is one that may be.
func anyFactor(r *rand.Rand) float64 {
	switch r.Intn(8) {
	case 0:
		return []float64{0, math.Copysign(0, -1), mostFactor, -mostFactor, 0x1p-1074, -0x1p-1074}[r.Intn(6)]
	case 1, 2, 3:
		return []float64{1, 1.35, 1.5, 0.75, -1, 0.9}[r.Intn(6)]
	case 4:
		return math.Ldexp(1+r.Float64(), r.Intn(1093)-1074)
	}
	return (2*r.Float64() - 1) * mostFactor
}

// caseName is one for each number up to 25.
func caseName(i int) string { return string([]byte{'k', 'a' + byte(i)}) }

// bears tells whether a joint bears a turn.
func bears(t *testing.T, p api.Plan, joint int) bool {
	t.Helper()
	places, e := bars.Unknowns(p)
	if e != api.OK {
		t.Fatal(p, e)
	}
	return places.Of[joint][2] >= 0 || p.Joints[joint].Fix >= api.FixTurn
}

// anyLoads is so many loads of so many cases that may be upon p.
func anyLoads(t *testing.T, r *rand.Rand, p api.Plan, many, cases int) []api.Load {
	t.Helper()
	l := make([]api.Load, many)
	for i := range l {
		c := caseName(r.Intn(cases))
		at := r.Intn(len(p.Joints))
		switch {
		case r.Intn(2) == 0:
			l[i] = uniform(c, r.Intn(len(p.Members)), anyNumber(r))
			l[i].X, l[i].Turn = []float32{0, minusNought}[r.Intn(2)], []float32{0, minusNought}[r.Intn(2)]
		case bears(t, p, at):
			l[i] = force(c, at, anyNumber(r), anyNumber(r), anyNumber(r))
		default:
			l[i] = force(c, at, anyNumber(r), anyNumber(r), 0)
		}
	}
	return l
}

// anyCombo is one of some of the cases of l.
func anyCombo(r *rand.Rand, l []api.Load) api.Combo {
	var c api.Combo
	for _, x := range loads.Cases(l) {
		if r.Intn(4) > 0 && len(c.Parts) < api.MaxCases {
			c.Parts = append(c.Parts, part(x, anyFactor(r)))
		}
	}
	r.Shuffle(len(c.Parts), func(i, k int) { c.Parts[i], c.Parts[k] = c.Parts[k], c.Parts[i] })
	return c
}
