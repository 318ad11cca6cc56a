package stiff_test

import (
	"go/ast"
	"go/parser"
	"go/token"
	"math"
	"math/big"
	"math/rand"
	"slices"
	"testing"

	"girder/api"
	"girder/dyad"
	"girder/stiff"
)

var minusNought = math.Copysign(0, -1)

// The chapter's examples 1 and 3.
func TestExamples(t *testing.T) {
	all(t, three(fixPoint, 0, bar(0, 1)), []int64{1}, 2, 9, 12, 12, 16)
	all(t, three(fixPoint, fixPoint, bar(0, 1)), []int64{1}, 0)
	all(t, three(0, 0, bar(0, 1)), []int64{1}, 4, 9, 12, -9, -12, 12, 16, -12, -16, -9, -12, 9, 12, -12, -16, 12, 16)
}

// beamMatrix is the matrix of a beam without a hinge from (0, 0) to (3, 4), nothing held.
func beamMatrix() []int64 {
	return []int64{
		201, -132, -600, -201, 132, -600,
		-132, 124, 450, 132, -124, 450,
		-600, 450, 2500, 600, -450, 1250,
		-201, 132, 600, 201, -132, 600,
		132, -124, -450, -132, 124, -450,
		-600, 450, 1250, 600, -450, 2500,
	}
}

// P22.1 to P22.3: each kind of member by itself, led either way, nothing held.
func TestKinds(t *testing.T) {
	lone := []int64{9, 12, -9, -12, 12, 16, -12, -16, -9, -12, 9, 12, -12, -16, 12, 16}
	turnAtA := []int64{
		57, -24, -300, -57, 24,
		-24, 43, 225, 24, -43,
		-300, 225, 1875, 300, -225,
		-57, 24, 300, 57, -24,
		24, -43, -225, -24, 43,
	}
	turnAtB := []int64{
		57, -24, -57, 24, -300,
		-24, 43, 24, -43, 225,
		-57, 24, 57, -24, 300,
		24, -43, -24, 43, -225,
		-300, 225, 300, -225, 1875,
	}
	for _, x := range []struct {
		m    api.Member
		at   []int64
		n    int
		want []int64
	}{
		{bar(0, 1), []int64{1}, 4, lone},
		{bar(1, 0), []int64{1}, 4, lone},
		{hinged(0, 1, true, true), []int64{1}, 4, lone},
		{hinged(1, 0, true, true), []int64{1}, 4, lone},
		{beam(0, 1), []int64{1, 3, 625}, 6, beamMatrix()},
		{beam(1, 0), []int64{1, 3, 625}, 6, beamMatrix()},
		{hinged(0, 1, false, true), []int64{1, 3}, 5, turnAtA},
		{hinged(1, 0, true, false), []int64{1, 3}, 5, turnAtA},
		{hinged(0, 1, true, false), []int64{1, 3}, 5, turnAtB},
		{hinged(1, 0, false, true), []int64{1, 3}, 5, turnAtB},
	} {
		all(t, three(0, 0, x.m), x.at, x.n, x.want...)
	}
}

// P22.1 to P22.3: what is held is left out, the rest stays as it is.
func TestHeld(t *testing.T) {
	for fix := range 64 {
		var free []int
		for k := range 6 {
			if fix>>k&1 == 0 {
				free = append(free, k)
			}
		}
		var want []int64
		for _, i := range free {
			for _, j := range free {
				want = append(want, beamMatrix()[6*i+j])
			}
		}
		all(t, three(uint8(fix&7), uint8(fix>>3), beam(0, 1)), []int64{1, 3, 625}, len(free), want...)
	}
}

// P22.1 to P22.3: plans of no joint, of no member, of unknowns without springs, of springs without unknowns.
func TestNothing(t *testing.T) {
	all(t, api.Plan{}, nil, 0)
	all(t, api.Plan{Joints: []api.Joint{}, Members: []api.Member{}}, []int64{}, 0)
	for n := range 17 {
		var free, still []api.Joint
		for i := range n {
			free = append(free, joint(int32(i), 7, api.FixTurn))
			still = append(still, joint(int32(i), 7, fixPoint)) // no beam takes hold of a turn
		}
		all(t, made(free), nil, 2*n, make([]int64, 4*n*n)...)
		all(t, made(still), nil, 0)
	}
	all(t, three(fixAll, fixAll, beam(0, 1), bar(1, 0), hinged(0, 1, false, true)), []int64{1, 3, 625, 1, 1, 3}, 0)
	all(t, three(fixPoint, fixPoint, bar(0, 1), hinged(0, 1, true, true)), []int64{1, 1}, 0)
}

// P22.1 to P22.3: members that meet at one joint, and joints that no member meets.
func TestMeeting(t *testing.T) {
	l := []api.Joint{joint(0, 0, 0), joint(3, 4, 0), joint(5, 0, fixPoint), joint(9, 9, 0)}
	all(t, made(l, bar(0, 1), bar(2, 0)), []int64{1, 1}, 6,
		34, 12, -9, -12, 0, 0,
		12, 16, -12, -16, 0, 0,
		-9, -12, 9, 12, 0, 0,
		-12, -16, 12, 16, 0, 0,
		0, 0, 0, 0, 0, 0,
		0, 0, 0, 0, 0, 0)
	// Ahead of the others, too; and a joint between of which y alone can move.
	l = []api.Joint{joint(9, 9, api.FixY), joint(3, 4, api.FixX), joint(0, 0, fixPoint)}
	all(t, made(l, strong(bar(1, 2), 5)), []int64{5}, 2, 0, 0, 0, 80)
	// Many members between the same joints, led either way.
	all(t, three(fixPoint, 0, bar(0, 1), strong(bar(1, 0), 2), bar(0, 1), hinged(0, 1, true, true)), []int64{1, 2, 1, 1}, 2, 45, 60, 60, 80)
	// Beams whose turn at the joint is one unknown, beside one whose hinge is there.
	l = []api.Joint{joint(0, 0, fixAll), joint(5, 0, fixPoint), joint(10, 0, fixAll), joint(5, 5, fixAll)}
	all(t, made(l, beam(0, 1), beam(1, 2), hinged(1, 3, true, false)), []int64{1, 3, 625, 1, 3, 625, 1, 3}, 1, 5000)
}

// P22.1 to P22.3: nothing is put where a row has 0: what nothing is put to is +0, at both ends.
func TestRowsWithNoughts(t *testing.T) {
	along := []int64{25, 0, -25, 0, 0, 0, 0, 0, -25, 0, 25, 0, 0, 0, 0, 0}
	upright := []int64{0, 0, 0, 0, 0, 25, 0, -25, 0, 0, 0, 0, 0, -25, 0, 25}
	for _, d := range []int32{5, -5} {
		all(t, made([]api.Joint{joint(0, 0, 0), joint(d, 0, 0)}, bar(0, 1)), []int64{1}, 4, along...)
		all(t, made([]api.Joint{joint(0, 0, 0), joint(0, d, 0)}, bar(0, 1)), []int64{1}, 4, upright...)
	}
	all(t, made([]api.Joint{joint(0, 0, 0), joint(5, 0, 0)}, beam(0, 1)), []int64{1, 3, 625}, 6,
		25, 0, 0, -25, 0, 0,
		0, 300, 750, 0, -300, 750,
		0, 750, 2500, 0, -750, 1250,
		-25, 0, 0, 25, 0, 0,
		0, -300, -750, 0, 300, -750,
		0, 750, 1250, 0, -750, 2500)
}

// P22.1 to P22.3: what cancels is +0 in floats, [-0, +0] in spans, 0 exactly; what comes behind it is put to that.
func TestCancelled(t *testing.T) {
	l := []api.Joint{joint(0, 0, 0), joint(3, 4, fixPoint), joint(-3, 4, fixPoint), joint(4, 3, fixPoint)}
	gone := api.Span{Lo: minusNought, Hi: 0}
	for _, members := range [][]api.Member{{bar(0, 1), bar(0, 2)}, {bar(2, 0), bar(1, 0)}} {
		p := made(l, members...)
		near(t, p, 2, 18, 0, 0, 32)
		sure(t, p, 2, one(18), gone, gone, one(32))
		exact(t, p, ints(1, 1), 2, wholes(18, 0, 0, 32)...)
	}
	all(t, made(l, bar(0, 1), bar(0, 2), bar(0, 3)), []int64{1, 1, 1}, 2, 34, 12, 12, 41)
}

// P22.1, P22.2: springs are put together in their order, which shows in the last bit.
func TestOrderOfSprings(t *testing.T) {
	l := []api.Joint{joint(0, 0, fixPoint), joint(1, 0, api.FixY)}
	one := api.Member{Kind: api.Bar, A: 0, B: 1, E: 1, Area: 1}
	tiny := api.Member{Kind: api.Bar, A: 0, B: 1, E: 1, Area: 0x1p-53}
	two := []*big.Int{valueOf(1 + 0x1p-52)}
	whole, part := dyad.Int(1), api.Dyad{Mag: []uint64{1}, Exp: -53}

	p := made(l, one, tiny, tiny)
	near(t, p, 1, 1)
	sure(t, p, 1, api.Span{Lo: 1, Hi: 1 + 0x1p-51})
	exact(t, p, []api.Dyad{whole, part, part}, 1, two...)

	p = made(l, tiny, one, tiny)
	near(t, p, 1, 1)
	sure(t, p, 1, api.Span{Lo: 1, Hi: 1 + 0x1p-51})
	exact(t, p, []api.Dyad{part, whole, part}, 1, two...)

	p = made(l, tiny, tiny, one)
	near(t, p, 1, 1+0x1p-52)
	sure(t, p, 1, api.Span{Lo: 1 + 0x1p-52, Hi: 1 + 0x1p-52})
	exact(t, p, []api.Dyad{part, part, whole}, 1, two...)
}

// P22.1, P22.2: sums and products are rounded outward, or to the nearest float, each by itself.
func TestRoundedOutward(t *testing.T) {
	l := []api.Joint{joint(0, 0, fixPoint), joint(1, 0, api.FixY)}
	m := api.Member{Kind: api.Bar, A: 0, B: 1, E: 1, Area: 1}
	p := made(l, m, strong(m, 0x1p-60))
	near(t, p, 1, 1)
	sure(t, p, 1, api.Span{Lo: 1, Hi: 1 + 0x1p-52})
	// L2 times L2 has more bits than a float: 2^80 and 18 * 2^40 and 81.
	l = []api.Joint{joint(0, 0, fixPoint), joint(3, 1<<20, fixPoint)}
	p = made(l, hinged(0, 1, true, false))
	springs, _ := parts(t, p)
	const square, above = 0x1p80 + 18*0x1p40, 0x1p80 + 18*0x1p40 + 0x1p28 // with 81 between
	s := springs[1]
	near(t, p, 1, float64(s.Near*square))
	sure(t, p, 1, api.Span{Lo: times(down, s.S.Lo, square), Hi: times(up, s.S.Hi, above)})
	exact(t, p, []api.Dyad{dyadOf(t, valueOf(springs[0].S.Lo)), dyadOf(t, valueOf(s.S.Lo))}, 1,
		new(big.Int).Mul(valueOf(s.S.Lo), new(big.Int).Exp(big.NewInt(1<<40+9), big.NewInt(2), nil)))
}

// nearOtherwise is how many entries of p's matrix put tells unlike what the words say.
func nearOtherwise(t *testing.T, p api.Plan, put func(entry, stiff, a, b float64) float64) int {
	t.Helper()
	springs, _ := parts(t, p)
	other := entries(t, p, func() float64 { return 0 }, func(entry float64, spring int, a, b int64) float64 {
		return put(entry, springs[spring].Near, float64(a), float64(b))
	})
	n := 0
	for i, x := range nearByWords(t, p) {
		if !same(x, other[i]) {
			n++
		}
	}
	return n
}

// P22.1: the order of each rounding: plans whose numbers would be told otherwise, were it another one.
func TestOrderOfRoundings(t *testing.T) {
	r := rand.New(rand.NewSource(1))
	otherwise := map[string]int{}
	for range 100 {
		p := anyPlan(r, 6, 12)
		checked(t, p, anyExact(t, r, p, 60))
		otherwise["one number first"] += nearOtherwise(t, p, func(entry, stiff, a, b float64) float64 {
			return plus(nearest, entry, times(nearest, times(nearest, stiff, a), b))
		})
		otherwise["joined with the sum"] += nearOtherwise(t, p, func(entry, stiff, a, b float64) float64 {
			return math.FMA(stiff, times(nearest, a, b), entry)
		})
		otherwise["downward"] += nearOtherwise(t, p, func(entry, stiff, a, b float64) float64 {
			return plus(down, entry, times(nearest, stiff, times(nearest, a, b)))
		})
		otherwise["exactly"] += nearOtherwise(t, p, func(entry, stiff, a, b float64) float64 {
			z := new(big.Float).SetPrec(300).Mul(big.NewFloat(a), big.NewFloat(b))
			z.Mul(z, big.NewFloat(stiff))
			x, _ := z.Add(z, big.NewFloat(entry)).Float64()
			return x
		})
	}
	for _, n := range otherwise {
		if n < 50 {
			t.Error(otherwise)
		}
	}
}

// P22.1 to P22.3: many plans, against the words, to the bit.
func TestByWords(t *testing.T) {
	r := rand.New(rand.NewSource(2))
	for i := range 300 {
		p := anyPlan(r, 10, r.Intn(16))
		checked(t, p, anyExact(t, r, p, []int{53, 200, 2000}[i%3]))
	}
}

// P22.1 to P22.3: numbers at both ends of their limits, on members of the least and the greatest length.
func TestNumbersAtTheirLimits(t *testing.T) {
	r := rand.New(rand.NewSource(3))
	for _, l := range [][]api.Joint{
		{joint(0, 0, 0), joint(1, 0, 0)},
		{joint(0, 0, 0), joint(-1, 1, 0)},
		{joint(-edge, -edge, 0), joint(edge, edge, 0)},
		{joint(edge, -edge, 0), joint(-edge, edge-1, 0)},
	} {
		for k := range 8 {
			number := func(bit int) float64 { return []float64{least, most}[k>>bit&1] }
			for _, m := range []api.Member{bar(0, 1), beam(0, 1), hinged(0, 1, false, true), hinged(0, 1, true, false)} {
				m.E, m.Area = number(0), number(1)
				if m.Kind == api.Beam {
					m.I = number(2)
				}
				p := made(l, m)
				springs, _ := parts(t, p)
				var low, high []api.Dyad
				for _, s := range springs {
					low, high = append(low, dyadOf(t, valueOf(s.S.Lo))), append(high, dyadOf(t, valueOf(s.S.Hi)))
				}
				checked(t, p, low)
				checked(t, p, high)
				opposite := m
				opposite.E = []float64{most, least}[k&1]
				p = made(l, m, opposite)
				checked(t, p, anyExact(t, r, p, 500))
			}
		}
	}
}

// The greatest number of springs and unknowns.
func TestTheGreatestPlans(t *testing.T) {
	r := rand.New(rand.NewSource(4))
	for _, bits := range []int{53, 1000, widest - 400, widest} {
		p := full(r)
		springs, places := parts(t, p)
		if len(springs) != 144 || places.N != 48 {
			t.Fatal(len(springs), places.N)
		}
		checked(t, p, anyExact(t, r, p, bits))
	}
}

// refused fails unless all calls tell that error, whatever else is handed in, and nothing beside it.
func refused(t *testing.T, p api.Plan, want api.Errno) {
	t.Helper()
	m, e := stiff.Near(p)
	s, f := stiff.Sure(p)
	if e != want || f != want || m.Rows != 0 || m.Cols != 0 || len(m.Data) != 0 || s.Rows != 0 || s.Cols != 0 || len(s.Data) != 0 {
		t.Fatalf("%+v: %v, %v beside %d, %d, not %d", p, m, s, e, f, want)
	}
	for _, n := range []int{0, 1, 2, 3, 144, 145, 1000} {
		inexact(t, p, slices.Repeat(ints(1), n), want)
		inexact(t, p, slices.Repeat(ints(0), n), want)
		inexact(t, p, slices.Repeat([]api.Dyad{{Mag: []uint64{2}}}, n), want)
	}
}

// Each error of bars.Check, ahead of whatever else is asked.
func TestRefused(t *testing.T) {
	good := three(fixPoint, 0, bar(0, 1))
	for _, fault := range []func(j *api.Joint){
		func(j *api.Joint) { j.Name = "" },
		func(j *api.Joint) { j.Name = "A" },
		func(j *api.Joint) { j.Name = "abcdefghi" },
		func(j *api.Joint) { j.Name = good.Joints[0].Name },
		func(j *api.Joint) { j.X = edge + 1 },
		func(j *api.Joint) { j.Y = math.MinInt32 },
		func(j *api.Joint) { j.X, j.Y = 0, 0 },
		func(j *api.Joint) { j.Fix = 8 },
	} {
		p := copied(good)
		fault(&p.Joints[1])
		refused(t, p, api.ErrJoint)
		p.Members[0].B = 7 // the joints count first
		refused(t, p, api.ErrJoint)
		p.Members = make([]api.Member, 49)
		refused(t, p, api.ErrJoint)
	}
	for _, fault := range []func(m *api.Member){
		func(m *api.Member) { m.B = 0 },
		func(m *api.Member) { m.B = 2 },
		func(m *api.Member) { m.A = -1 },
		func(m *api.Member) { m.A = math.MaxInt },
		func(m *api.Member) { m.Kind = 0 },
		func(m *api.Member) { m.Kind = 3 },
		func(m *api.Member) { m.E = 0 },
		func(m *api.Member) { m.E = math.NaN() },
		func(m *api.Member) { m.E = math.Nextafter(least, 0) },
		func(m *api.Member) { m.Area = math.Inf(1) },
		func(m *api.Member) { m.Area = math.Nextafter(most, math.Inf(1)) },
		func(m *api.Member) { m.I = 1 },
		func(m *api.Member) { m.I = minusNought },
		func(m *api.Member) { m.HingeB = true },
		func(m *api.Member) { m.Name = "" },
	} {
		p := copied(good)
		fault(&p.Members[0])
		refused(t, p, api.ErrMember)
		p = three(fixPoint, 0, bar(0, 1), bar(0, 1))
		fault(&p.Members[1])
		refused(t, p, api.ErrMember)
	}
	twice := three(0, 0, bar(0, 1), beam(0, 1))
	twice.Members[1].Name = twice.Members[0].Name
	refused(t, twice, api.ErrMember)
	refused(t, api.Plan{Members: []api.Member{bar(0, 1)}}, api.ErrMember)

	many := full(rand.New(rand.NewSource(6)))
	refused(t, made(many.Joints, append(slices.Clone(many.Members), bar(0, 1))...), api.ErrLong)
	refused(t, api.Plan{Joints: good.Joints, Members: make([]api.Member, 49)}, api.ErrLong)
	refused(t, made(append(slices.Clone(many.Joints), joint(77, 77, 0)), many.Members...), api.ErrLong)
	refused(t, api.Plan{Joints: make([]api.Joint, 17)}, api.ErrLong)
}

// R7: each operation on floats stands in a conversion, so that no machine joins two of them.
func TestNotJoined(t *testing.T) {
	file, err := parser.ParseFile(token.NewFileSet(), "stiff.go", nil, 0)
	if err != nil {
		t.Fatal(err)
	}
	found := 0
	for _, d := range file.Decls {
		f, ok := d.(*ast.FuncDecl)
		if !ok || f.Name.Name != "putNear" {
			continue
		}
		alone := map[ast.Expr]bool{}
		ast.Inspect(f, func(n ast.Node) bool {
			switch x := n.(type) {
			case *ast.CallExpr:
				if to, ok := x.Fun.(*ast.Ident); ok && to.Name == "float64" {
					alone[x.Args[0]] = true
				}
			case *ast.BinaryExpr:
				found++
				if !alone[x] {
					t.Error("an operation stands alone:", x.Op)
				}
			}
			return true
		})
	}
	if found != 3 {
		t.Error(found, "operations on floats were found, not 3")
	}
}
