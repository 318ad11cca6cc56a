package stiff_test

import (
	"math/big"
	"math/rand"
	"slices"
	"testing"

	"girder/api"
	"girder/bars"
	"girder/inertia"
	"girder/motion"
	"girder/ratio"
	"girder/span"
	"girder/stiff"
)

// matrices is all three of a plan that may be; ok is false if Exact's is too long.
func matrices(t *testing.T, p api.Plan, at []api.Dyad) (near api.Matrix, sure api.Spans, exact api.Dyads, ok bool) {
	t.Helper()
	near, e := stiff.Near(p)
	sure, f := stiff.Sure(p)
	exact, g := stiff.Exact(p, at)
	if e != api.OK || f != api.OK || g != api.OK && g != api.ErrLong {
		t.Fatal(p, e, f, g)
	}
	return near, sure, exact, g == api.OK
}

// P22.4: the numbers of Near, and those of Exact, lie in the spans of Sure.
func TestWithin(t *testing.T) {
	r := rand.New(rand.NewSource(21))
	held := 0
	for i := range 300 {
		p := anyPlan(r, 8, r.Intn(20))
		for range 3 {
			near, sure, exact, ok := matrices(t, p, anyExact(t, r, p, []int{53, 300, 3000}[i%3]))
			for k, s := range sure.Data {
				if !span.Has(s, near.Data[k]) || ok && !span.Holds(s, exact.Data[k]) {
					t.Fatal(p, k, s, near.Data[k])
				}
			}
			if ok {
				held++
			}
		}
	}
	if held < 500 {
		t.Error(held)
	}
}

// ends is the exact plans whose springs are as soft, and as stiff, as may be.
func ends(t *testing.T, p api.Plan) (low, high []api.Dyad) {
	t.Helper()
	springs, _ := parts(t, p)
	for _, s := range springs {
		low, high = append(low, dyadOf(t, valueOf(s.S.Lo))), append(high, dyadOf(t, valueOf(s.S.Hi)))
	}
	return low, high
}

// P22.4: exact plans at the ends of all S lie in the spans as well.
func TestEndsLieWithin(t *testing.T) {
	r := rand.New(rand.NewSource(22))
	for range 100 {
		p := anyPlan(r, 8, r.Intn(20))
		low, high := ends(t, p)
		for _, at := range [][]api.Dyad{low, high} {
			_, sure, exact, ok := matrices(t, p, at)
			for k, s := range sure.Data {
				if !ok || !span.Holds(s, exact.Data[k]) {
					t.Fatal(p, k, s)
				}
			}
		}
	}
}

// applied is a matrix of exact numbers times v, and v times that.
func applied(m api.Dyads, v []*big.Int) (forces []*big.Int, work *big.Int) {
	work = new(big.Int)
	for i := range m.Rows {
		sum := new(big.Int)
		for j, x := range v {
			sum.Add(sum, new(big.Int).Mul(value(m.Data[i*m.Cols+j]), x))
		}
		forces = append(forces, sum)
		work.Add(work, new(big.Int).Mul(sum, v[i]))
	}
	return forces, work
}

func isNought(x *big.Int) bool { return x.Sign() == 0 }

func allNought(l []*big.Int) bool {
	return !slices.ContainsFunc(l, func(x *big.Int) bool { return !isNought(x) })
}

// carried is the move of all joints by x and y, and turn by turn about the point cx, cy.
func carried(t *testing.T, p api.Plan, x, y, turn, cx, cy int64) []*big.Int {
	t.Helper()
	_, places := parts(t, p)
	v := make([]*big.Int, places.N)
	for i, j := range p.Joints {
		by := [3]int64{x - turn*(int64(j.Y)-cy), y + turn*(int64(j.X)-cx), turn}
		for k, unknown := range places.Of[i] {
			if unknown >= 0 {
				v[unknown] = big.NewInt(by[k])
			}
		}
	}
	return v
}

// P22.4: of a plan of which nothing is held, Exact times a move of all joints by the same, or turned about a point, is 0.
func TestCarried(t *testing.T) {
	r := rand.New(rand.NewSource(23))
	any := func() int64 { return int64(r.Intn(2001) - 1000) }
	for range 100 {
		p := loose(anyPlan(r, 8, 1+r.Intn(14)))
		_, _, m, ok := matrices(t, p, anyExact(t, r, p, 500))
		if !ok {
			t.Fatal("too long")
		}
		for _, v := range [][]*big.Int{
			carried(t, p, 1, 0, 0, 0, 0),
			carried(t, p, 0, 1, 0, 0, 0),
			carried(t, p, 0, 0, 1, 0, 0),
			carried(t, p, any(), any(), any(), any(), any()),
		} {
			if forces, work := applied(m, v); !allNought(forces) || !isNought(work) {
				t.Fatalf("%+v: %v", p, v)
			}
		}
	}
	// A turn of the ends alone, or a move of one joint, is no such move.
	p := three(0, 0, beam(0, 1))
	_, _, m, _ := matrices(t, p, ints(1, 3, 625))
	for _, v := range [][]*big.Int{
		{big.NewInt(0), big.NewInt(0), big.NewInt(1), big.NewInt(0), big.NewInt(0), big.NewInt(1)},
		{big.NewInt(1), big.NewInt(0), big.NewInt(0), big.NewInt(0), big.NewInt(0), big.NewInt(0)},
	} {
		if forces, work := applied(m, v); allNought(forces) || work.Sign() <= 0 {
			t.Error(v, forces, work)
		}
	}
}

// wholeOf is ratios as whole numbers, all of them times the same.
func wholeOf(by []api.Ratio) []*big.Int {
	limbs := func(l []uint64) *big.Int {
		v := new(big.Int)
		for _, limb := range slices.Backward(l) {
			v.Lsh(v, 64).Or(v, new(big.Int).SetUint64(limb))
		}
		return v
	}
	den := big.NewInt(1)
	for _, x := range by {
		den.Mul(den, limbs(x.Den))
	}
	out := make([]*big.Int, len(by))
	for i, x := range by {
		out[i] = new(big.Int).Div(new(big.Int).Mul(den, limbs(x.Num)), limbs(x.Den))
		if x.Neg {
			out[i].Neg(out[i])
		}
	}
	return out
}

// stored is twice what p stores where its unknowns move by these whole numbers: by bars.Stretch, the sum of how stiff each spring is times the square of its stretch; and whether no spring is stretched.
func stored(t *testing.T, p api.Plan, at []api.Dyad, v []int64) (twice *big.Int, still bool) {
	t.Helper()
	by := make([]api.Ratio, len(v))
	for i, n := range v {
		by[i] = ratio.Int(n)
	}
	stretches, e := bars.Stretch(p, by)
	if e != api.OK {
		t.Fatal(e)
	}
	twice, still = new(big.Int), true
	for k, x := range stretches {
		n := wholeOf([]api.Ratio{x})[0] // a whole number, whose Den is 1
		still = still && isNought(n)
		n.Mul(n, n)
		twice.Add(twice, n.Mul(n, value(at[k])))
	}
	return twice, still
}

// P22.4: Exact of a move, times that move, is twice what the plan stores: never below 0, and 0 just where no spring is stretched.
func TestStored(t *testing.T) {
	r := rand.New(rand.NewSource(24))
	noughts, others := 0, 0
	for i := range 400 {
		p := anyPlan(r, 6, r.Intn(7))
		_, places := parts(t, p)
		at := anyExact(t, r, p, 200)
		_, _, m, ok := matrices(t, p, at)
		if !ok {
			t.Fatal("too long")
		}
		v, numbers := make([]*big.Int, places.N), make([]int64, places.N)
		for k := range v {
			if r.Intn(1+i%4) == 0 { // mostly noughts, now and then
				numbers[k] = int64(r.Intn(7) - 3)
			}
			v[k] = big.NewInt(numbers[k])
		}
		forces, work := applied(m, v)
		twice, still := stored(t, p, at, numbers)
		if work.Cmp(twice) != 0 || work.Sign() < 0 || isNought(work) != still || allNought(forces) != still {
			t.Fatalf("%+v by %v: %v, not %v", p, numbers, work, twice)
		}
		if still {
			noughts++
		} else {
			others++
		}
	}
	if noughts < 50 || others < 50 {
		t.Error(noughts, others)
	}
}

// P22.4: Exact times a motion, which stretches no spring, is 0; and as many eigenvalues are 0 as there are motions, none is below.
func TestMotions(t *testing.T) {
	r := rand.New(rand.NewSource(25))
	found, counted := 0, 0
	for range 200 {
		p := anyPlan(r, 6, r.Intn(9))
		_, _, m, ok := matrices(t, p, anyExact(t, r, p, 60))
		motions, e := motion.Motions(p)
		if !ok || e != api.OK {
			t.Fatal(ok, e)
		}
		for _, x := range motions {
			found++
			if forces, _ := applied(m, wholeOf(x.By)); !allNought(forces) {
				t.Fatalf("%+v: %v", p, x)
			}
		}
		signs, e := inertia.Signs(m)
		if e == api.ErrLong {
			continue
		}
		counted++
		if e != api.OK || signs.Below != 0 || signs.At != len(motions) {
			t.Fatalf("%+v: %v, %d, not %d", p, signs, e, len(motions))
		}
	}
	if found < 200 || counted < 150 {
		t.Error(found, counted)
	}
}

// sameMatrices fails unless both plans have the same matrices, to the bit.
func sameMatrices(t *testing.T, p, q api.Plan, at []api.Dyad) {
	t.Helper()
	_, places := parts(t, p)
	near(t, q, places.N, nearByWords(t, p)...)
	sure(t, q, places.N, sureByWords(t, p)...)
	exact(t, q, at, places.N, exactByWords(t, p, at)...)
}

// P22.4: a member turned about changes nothing, to the bit.
func TestTurnedAbout(t *testing.T) {
	r := rand.New(rand.NewSource(26))
	for range 200 {
		p := anyPlan(r, 8, 1+r.Intn(14))
		at := anyExact(t, r, p, 300)
		q := copied(p)
		k := r.Intn(len(p.Members))
		for i, m := range p.Members {
			if i == k || r.Intn(2) == 0 {
				q.Members[i].A, q.Members[i].B, q.Members[i].HingeA, q.Members[i].HingeB = m.B, m.A, m.HingeB, m.HingeA
			}
		}
		sameMatrices(t, p, q, at)
	}
}

// P5: a plan that is moved as a whole has the same matrices, to the bit.
func TestMovedAsAWhole(t *testing.T) {
	r := rand.New(rand.NewSource(27))
	for range 100 {
		p := anyPlan(r, 8, 1+r.Intn(14))
		for i := range p.Joints {
			p.Joints[i].X, p.Joints[i].Y = int32(i)*int32(1+r.Intn(99))+int32(i), int32(r.Intn(1000))
		}
		if e, _ := bars.Check(p); e != api.OK {
			continue
		}
		q := copied(p)
		x, y := int32(r.Intn(1<<20))-edge, int32(r.Intn(1<<20))-edge
		for i := range q.Joints {
			q.Joints[i].X, q.Joints[i].Y = q.Joints[i].X+x, q.Joints[i].Y+y
		}
		sameMatrices(t, p, q, anyExact(t, r, p, 300))
	}
}

// P22.3: exact matrices hang on nothing but how stiff each spring is: with members in another order they are the same.
func TestInAnyOrder(t *testing.T) {
	r := rand.New(rand.NewSource(28))
	for range 100 {
		p := made(anyJoints(r, 5))
		var members []api.Member
		for range 1 + r.Intn(9) {
			m := anyMember(r, 5)
			if m.Kind == api.Beam {
				m.HingeA, m.HingeB = true, true // one spring a member
			}
			members = append(members, m)
		}
		p = made(p.Joints, members...)
		at := anyExact(t, r, p, 300)
		places := r.Perm(len(members))
		other, turned := make([]api.Member, len(members)), make([]api.Dyad, len(members))
		for i, k := range places {
			other[i], turned[i] = members[k], at[k]
		}
		_, unknowns := parts(t, p)
		exact(t, made(p.Joints, other...), turned, unknowns.N, exactByWords(t, p, at)...)
	}
}
