package bars_test

import (
	"math/big"
	"math/rand"
	"slices"
	"testing"

	"girder/api"
	"girder/bars"
	"girder/ratio"
)

const ones = ^uint64(0)

// limbs is a limb so often, and what stands above it.
func limbs(n int, each uint64, above ...uint64) []uint64 {
	return append(slices.Repeat([]uint64{each}, n), above...)
}

// value is the value of a ratio that has one.
func value(r api.Ratio) *big.Rat {
	whole := func(l []uint64) *big.Int {
		v := new(big.Int)
		for _, limb := range slices.Backward(l) {
			v.Lsh(v, 64).Or(v, new(big.Int).SetUint64(limb))
		}
		return v
	}
	v := new(big.Rat).SetFrac(whole(r.Num), whole(r.Den))
	if r.Neg {
		v.Neg(v)
	}
	return v
}

// right is the right ratio of v, right or too long.
func right(v *big.Rat) api.Ratio {
	list := func(n *big.Int) []uint64 {
		left, limb := new(big.Int).Abs(n), new(big.Int)
		var l []uint64
		for left.Sign() > 0 {
			l = append(l, limb.And(left, new(big.Int).SetUint64(ones)).Uint64())
			left.Rsh(left, 64)
		}
		return l
	}
	return api.Ratio{Neg: v.Sign() < 0, Num: list(v.Num()), Den: list(v.Denom())}
}

func sameRatio(a, b api.Ratio) bool {
	return a.Neg == b.Neg && slices.Equal(a.Num, b.Num) && slices.Equal(a.Den, b.Den)
}

// over is num over den as a right ratio.
func over(num, den int64) api.Ratio { return right(big.NewRat(num, den)) }

// ints is whole numbers as ratios.
func ints(l ...int64) []api.Ratio {
	out := make([]api.Ratio, len(l))
	for i, n := range l {
		out[i] = ratio.Int(n)
	}
	return out
}

// byHand is each spring's stretch: DOC.md's words, spring by spring.
func byHand(t *testing.T, p api.Plan, by []api.Ratio) []*big.Rat {
	t.Helper()
	places, e := bars.Unknowns(p)
	if e != api.OK || places.N != len(by) {
		t.Fatal(places, e)
	}
	var out []*big.Rat
	for _, s := range springsByWords(t, p) {
		sum := new(big.Rat)
		for i, joint := range []int{p.Members[s.Member].A, p.Members[s.Member].B} {
			for k, unknown := range places.Of[joint] {
				if unknown >= 0 {
					sum.Add(sum, times(new(big.Rat).SetInt64(s.Row[3*i+k]), value(by[unknown])))
				}
			}
		}
		out = append(out, sum)
	}
	return out
}

// stretched fails unless Stretch tells right ratios of these values.
func stretched(t *testing.T, p api.Plan, by []api.Ratio, want ...*big.Rat) {
	t.Helper()
	got, e := bars.Stretch(p, by)
	if e != api.OK || len(got) != len(want) {
		t.Fatalf("Stretch(%+v, ..): %d numbers, %d, not %d", p, len(got), e, len(want))
	}
	for i, r := range got {
		if !ratio.Right(r) || !sameRatio(r, right(want[i])) {
			t.Fatalf("Stretch(%+v, ..): %v at %d, not %v", p, r, i, want[i])
		}
	}
}

// unstretched fails unless Stretch tells that error, and nothing beside it.
func unstretched(t *testing.T, p api.Plan, by []api.Ratio, want api.Errno) {
	t.Helper()
	if l, e := bars.Stretch(p, by); e != want || len(l) != 0 {
		t.Errorf("Stretch(%+v, ..): %d numbers, %d, not %d", p, len(l), e, want)
	}
}

func whole(l ...int64) []*big.Rat {
	out := make([]*big.Rat, len(l))
	for i, n := range l {
		out[i] = new(big.Rat).SetInt64(n)
	}
	return out
}

// The chapter's example 3.
func TestExampleOfStretch(t *testing.T) {
	stretched(t, three(bar(0, 1)), ints(1, 0, 0, 0), whole(-3)...)
	stretched(t, three(beam(0, 1, false, false)), ints(0, 0, 0, 0, 0, 1), whole(0, 25, -1)...)
}

// P19.4: each unknown by itself, of each kind of spring.
func TestEachUnknown(t *testing.T) {
	for _, x := range []struct {
		m    api.Member
		want [][]int64 // unknown by unknown
	}{
		{bar(0, 1), [][]int64{{-3}, {-4}, {3}, {4}}},
		{bar(1, 0), [][]int64{{-3}, {-4}, {3}, {4}}},
		{beam(0, 1, true, true), [][]int64{{-3}, {-4}, {3}, {4}}},
		{beam(0, 1, false, false), [][]int64{{-3, -8, 0}, {-4, 6, 0}, {0, 25, 1}, {3, 8, 0}, {4, -6, 0}, {0, 25, -1}}},
		{beam(1, 0, false, false), [][]int64{{-3, -8, 0}, {-4, 6, 0}, {0, 25, -1}, {3, 8, 0}, {4, -6, 0}, {0, 25, 1}}},
		{beam(0, 1, false, true), [][]int64{{-3, -4}, {-4, 3}, {0, 25}, {3, 4}, {4, -3}}},
		{beam(1, 0, true, false), [][]int64{{-3, -4}, {-4, 3}, {0, 25}, {3, 4}, {4, -3}}},
		{beam(0, 1, true, false), [][]int64{{-3, -4}, {-4, 3}, {3, 4}, {4, -3}, {0, 25}}},
	} {
		for k, want := range x.want {
			by := make([]int64, len(x.want))
			by[k] = 1
			stretched(t, three(x.m), ints(by...), whole(want...)...)
			by[k] = -6
			for i := range want {
				want[i] *= -6
			}
			stretched(t, three(x.m), ints(by...), whole(want...)...)
		}
	}
}

// P19.4: what is held moves by 0; with all of it held nothing is stretched, and with no member there is nothing.
func TestHeldMovesByNought(t *testing.T) {
	p := three(beam(0, 1, false, false))
	p.Joints[0].Fix = api.FixX + api.FixTurn
	p.Joints[1].Fix = api.FixY
	stretched(t, p, ints(1, 10, 100), whole(-4+30, 6+80+2500, -100)...)
	p.Joints[0].Fix, p.Joints[1].Fix = 7, 7
	stretched(t, p, nil, whole(0, 0, 0)...)
	stretched(t, p, []api.Ratio{}, whole(0, 0, 0)...)
	stretched(t, api.Plan{}, nil)
	stretched(t, three(), []api.Ratio{over(1, 2), over(1, 3), over(-1, 5), over(0, 1)})
	// A turn that is held, and one that only a hinge meets, beside one that counts.
	q := api.Plan{Joints: grid(3), Members: []api.Member{beam(0, 1, false, true), beam(1, 2, true, false)}}
	q.Members[1].Name = "n"
	q.Joints[0].Fix, q.Joints[1].Fix, q.Joints[2].Fix = 7, 3, 3
	stretched(t, q, ints(5), whole(0, 0, 0, 45)...)
}

// P19.4: too few and too many ratios, and such as are not right; that counts behind what Check tells, and ahead of what is too long.
func TestShape(t *testing.T) {
	p := three(bar(0, 1))
	for n := range 10 {
		if n != 4 {
			unstretched(t, p, ints(make([]int64, n)...), api.ErrShape)
			unstretched(t, three(beam(0, 1, true, true)), ints(make([]int64, n)...), api.ErrShape)
		}
		if n != 6 {
			unstretched(t, three(beam(0, 1, false, false)), ints(make([]int64, n)...), api.ErrShape)
		}
		if n != 0 {
			unstretched(t, api.Plan{}, ints(make([]int64, n)...), api.ErrShape)
		}
	}
	wrong := []api.Ratio{
		{}, {Den: []uint64{}}, {Den: []uint64{0}}, {Den: []uint64{2}}, {Den: []uint64{1, 0}}, {Neg: true, Den: []uint64{1}}, {Num: []uint64{0}, Den: []uint64{1}}, {Num: []uint64{1}}, {Num: []uint64{1}, Den: []uint64{0}},
		{Num: []uint64{2}, Den: []uint64{4}}, {Num: []uint64{3}, Den: []uint64{3}}, {Num: []uint64{1, 0}, Den: []uint64{1}}, {Num: []uint64{1}, Den: []uint64{3, 0}}, {Neg: true, Num: []uint64{6}, Den: []uint64{4}},
		{Num: limbs(256, 0, 1), Den: []uint64{1}}, {Num: []uint64{1}, Den: limbs(256, 0, 1)}, {Num: limbs(1000, ones), Den: limbs(900, ones)},
	}
	long := api.Ratio{Num: limbs(256, ones), Den: []uint64{1}}
	held := three(bar(0, 1))
	held.Joints[0].Fix, held.Joints[1].Fix = 3, 2
	lone := three() // its numbers stretch nothing, and count all the same
	for _, r := range wrong {
		for k := range 4 {
			by := ints(1, 2, 3, 4)
			by[k] = r
			unstretched(t, p, by, api.ErrShape)
			unstretched(t, lone, by, api.ErrShape)
			by = []api.Ratio{long, long, long, long}
			by[k] = r
			unstretched(t, p, by, api.ErrShape)
		}
		unstretched(t, held, []api.Ratio{r}, api.ErrShape)
		for _, n := range []int{3, 5} {
			unstretched(t, p, slices.Repeat([]api.Ratio{r}, n), api.ErrShape)
		}
		unstretched(t, changed(p, 0, func(m *api.Member) { m.E = 0 }), []api.Ratio{r}, api.ErrMember)
	}
	unstretched(t, p, []api.Ratio{long, long, long}, api.ErrShape)
	unstretched(t, frame(49), []api.Ratio{long}, api.ErrLong)
	unstretched(t, api.Plan{Joints: []api.Joint{{}}}, wrong, api.ErrJoint)
}

// P19.4: answers of 256 limbs, and of one bit more.
func TestTooLong(t *testing.T) {
	line := func(dx int32) api.Plan {
		p := api.Plan{Joints: []api.Joint{{Name: "a", Fix: 7}, {Name: "b", X: dx, Fix: api.FixY}}, Members: []api.Member{bar(0, 1)}}
		return p
	}
	alone := func(num, den []uint64) []api.Ratio { return []api.Ratio{{Num: num, Den: den}} }
	top := alone(limbs(255, 0, 1<<63), []uint64{1})
	stretched(t, line(1), top, value(top[0]))
	stretched(t, line(-1), top, new(big.Rat).Neg(value(top[0])))
	unstretched(t, line(2), top, api.ErrLong)
	unstretched(t, line(-2), top, api.ErrLong)
	half := alone(limbs(255, 0, 1<<62), []uint64{1})
	stretched(t, line(2), half, value(top[0]))
	stretched(t, line(3), half, times(big.NewRat(3, 1), value(half[0])))
	unstretched(t, line(4), half, api.ErrLong)
	all := alone(limbs(256, ones), []uint64{2})
	stretched(t, line(2), all, times(big.NewRat(2, 1), value(all[0])))
	unstretched(t, line(3), all, api.ErrLong)
	small := alone([]uint64{1}, limbs(255, 0, 1<<63))
	stretched(t, line(1<<20), small, times(big.NewRat(1<<20, 1), value(small[0])))
	stretched(t, line(3), small, times(big.NewRat(3, 1), value(small[0])))
}

// P19.4: two long Dens that have no divisor in common make a sum that is too long, of whichever spring.
func TestTooLongSums(t *testing.T) {
	one := api.Ratio{Num: []uint64{1}, Den: limbs(255, 0, 1<<63)}
	other := api.Ratio{Num: []uint64{1}, Den: limbs(256, ones)}
	zero := ratio.Int(0)
	p := three(bar(0, 1))
	stretched(t, p, []api.Ratio{one, zero, zero, zero}, times(big.NewRat(-3, 1), value(one)))
	stretched(t, p, []api.Ratio{zero, other, zero, zero}, times(big.NewRat(-4, 1), value(other)))
	unstretched(t, p, []api.Ratio{one, other, zero, zero}, api.ErrLong)
	unstretched(t, p, []api.Ratio{zero, one, other, zero}, api.ErrLong)
	unstretched(t, p, []api.Ratio{other, zero, zero, one}, api.ErrLong)
	// The bow is too long; what comes ahead of it and behind it is not.
	b := three(beam(0, 1, false, false))
	unstretched(t, b, []api.Ratio{one, one, other, zero, zero, other}, api.ErrLong)
	unstretched(t, b, []api.Ratio{zero, zero, one, zero, zero, other}, api.ErrLong)
	// Of many members only the last one is too long.
	many := frame(48)
	u, _ := bars.Unknowns(many)
	by := slices.Repeat([]api.Ratio{zero}, u.N)
	last := many.Members[47]
	by[u.Of[last.A][0]], by[u.Of[last.B][1]] = one, other
	unstretched(t, many, by, api.ErrLong)
}

// P19.4: what comes up on the way may be too long, while no answer is: it is told, in whichever order the numbers stand.
func TestLongOnTheWay(t *testing.T) {
	one := api.Ratio{Num: []uint64{1}, Den: limbs(255, 0, 1<<63)}
	other := api.Ratio{Num: []uint64{1}, Den: limbs(256, ones)}
	p := three(bar(0, 1))
	stretched(t, p, []api.Ratio{one, other, one, other}, whole(0)...)
	little := right(new(big.Rat).Add(value(one), big.NewRat(-7, 1<<10)))
	stretched(t, p, []api.Ratio{one, other, little, other}, big.NewRat(-21, 1<<10))
	stretched(t, p, []api.Ratio{little, other, one, other}, big.NewRat(21, 1<<10))
	// Each of four products is too long, and so are the sums of two and of three.
	great := api.Ratio{Num: limbs(256, ones), Den: []uint64{1}}
	less := api.Ratio{Num: limbs(255, ones, ones-1), Den: []uint64{1}}
	first := new(big.Rat).Sub(value(great), value(less))
	stretched(t, p, []api.Ratio{less, less, great, great}, times(big.NewRat(7, 1), first))
	stretched(t, p, []api.Ratio{great, less, less, great}, first)
	unstretched(t, p, []api.Ratio{great, great, less, ratio.Int(0)}, api.ErrLong)
	// Both joints are moved by the same long numbers, and both ends turned by a third one.
	third := api.Ratio{Num: []uint64{1}, Den: append([]uint64{1}, limbs(255, 0xABCDEF)...)}
	if !ratio.Right(third) {
		t.Fatal("not right")
	}
	b := three(beam(0, 1, false, false))
	stretched(t, b, []api.Ratio{one, other, third, one, other, third}, new(big.Rat), times(big.NewRat(50, 1), value(third)), new(big.Rat))
}

// P19.4: long numbers of unknowns that a spring's row has 0 at, or that its member does not meet, play no part.
func TestLongElsewhere(t *testing.T) {
	one := api.Ratio{Num: []uint64{1}, Den: limbs(255, 0, 1<<63)}
	other := api.Ratio{Num: []uint64{1}, Den: limbs(256, ones)}
	zero := ratio.Int(0)
	p := api.Plan{Joints: []api.Joint{{Name: "a"}, {Name: "b", X: 4}, {Name: "c", X: 4, Y: 3}}, Members: []api.Member{bar(0, 1)}}
	stretched(t, p, []api.Ratio{zero, one, ratio.Int(1), other, one, other}, whole(4)...)
	stretched(t, p, []api.Ratio{one, other, zero, other, other, other}, times(big.NewRat(-4, 1), value(one)))
}

// anyRatio is one with up to so many limbs above and below.
func anyRatio(r *rand.Rand, most int) api.Ratio {
	number := func() *big.Int {
		v := new(big.Int)
		for range 1 + r.Intn(most) {
			v.Lsh(v, 64).Or(v, new(big.Int).SetUint64(r.Uint64()>>r.Intn(64)))
		}
		return v
	}
	num, den := number(), number()
	if r.Intn(6) == 0 {
		num.SetInt64(0)
	}
	if den.Sign() == 0 {
		den.SetInt64(1)
	}
	v := new(big.Rat).SetFrac(num, den)
	if r.Intn(2) == 0 {
		v.Neg(v)
	}
	return right(v)
}

// tooLong tells whether v has no right ratio.
func tooLong(v *big.Rat) bool { return v.Num().BitLen() > 256*64 || v.Denom().BitLen() > 256*64 }

// P19.4: many plans and moves, against the words, exactly.
func TestStretchByWords(t *testing.T) {
	r := rand.New(rand.NewSource(6))
	told := map[bool]int{}
	for i := range 400 {
		p := anyPlan(r, r.Intn(12))
		u, _ := bars.Unknowns(p)
		most := []int{1, 2, 5, 40, 100, 250}[i%6]
		by := make([]api.Ratio, u.N)
		for k := range by {
			by[k] = anyRatio(r, most)
		}
		want := byHand(t, p, by)
		long := slices.ContainsFunc(want, tooLong)
		told[long]++
		if long {
			unstretched(t, p, by, api.ErrLong)
		} else {
			stretched(t, p, by, want...)
		}
	}
	if told[true] < 20 || told[false] < 200 {
		t.Error(told)
	}
}

// free is p with nothing held.
func free(p api.Plan) api.Plan {
	p = copied(p)
	for i := range p.Joints {
		p.Joints[i].Fix = 0
	}
	return p
}

// carried is the move of all joints of p, nothing of which is held, by x and y, and by t about the point cx, cy.
func carried(tt *testing.T, p api.Plan, x, y, t, cx, cy *big.Rat) []api.Ratio {
	tt.Helper()
	u, e := bars.Unknowns(p)
	if e != api.OK {
		tt.Fatal(e)
	}
	by := make([]api.Ratio, u.N)
	for i, j := range p.Joints {
		awayX := new(big.Rat).Sub(big.NewRat(int64(j.X), 1), cx)
		awayY := new(big.Rat).Sub(big.NewRat(int64(j.Y), 1), cy)
		by[u.Of[i][0]] = right(new(big.Rat).Sub(x, times(t, awayY)))
		by[u.Of[i][1]] = right(new(big.Rat).Add(y, times(t, awayX)))
		if k := u.Of[i][2]; k >= 0 {
			by[k] = right(t)
		}
	}
	return by
}

// P19.5: where all joints are moved by the same, or turned about a point, no spring is stretched.
func TestCarried(t *testing.T) {
	r := rand.New(rand.NewSource(7))
	zero := new(big.Rat)
	for i := range 200 {
		p := free(anyPlan(r, 1+r.Intn(20)))
		number := func() *big.Rat { return value(anyRatio(r, []int{1, 3, 40}[i%3])) }
		none := whole(make([]int64, len(sprung(t, p)))...)
		stretched(t, p, carried(t, p, number(), number(), zero, zero, zero), none...)
		stretched(t, p, carried(t, p, zero, zero, number(), number(), number()), none...)
		stretched(t, p, carried(t, p, number(), number(), number(), number(), number()), none...)
	}
	// A turn of the ends alone is no such move.
	b := three(beam(0, 1, false, false))
	stretched(t, b, ints(0, 0, 1, 0, 0, 1), whole(0, 50, 0)...)
}

// P19.5: a member turned about is stretched by the same (SpringEnds by as much the other way); a plan that stands elsewhere, too.
func TestStretchTurnedAbout(t *testing.T) {
	r := rand.New(rand.NewSource(8))
	for range 100 {
		p := anyPlan(r, 1+r.Intn(10))
		u, _ := bars.Unknowns(p)
		by := make([]api.Ratio, u.N)
		for k := range by {
			by[k] = anyRatio(r, 3)
		}
		want := byHand(t, p, by)
		for i, s := range sprung(t, p) {
			if s.Kind == api.SpringEnds {
				want[i].Neg(want[i])
			}
		}
		q := copied(p)
		for i, m := range q.Members {
			q.Members[i] = turned(m)
		}
		stretched(t, q, by, want...)
	}
}
