package loads_test

import (
	"math"
	"math/big"
	"math/rand"
	"testing"

	"girder/api"
	"girder/bars"
	"girder/loads"
	"girder/span"
)

// allJoints is what Joints tells, as fractions.
func allJoints(t *testing.T, p api.Plan, l []api.Load, c api.Combo) []brought {
	t.Helper()
	got, e := loads.Joints(p, l, c)
	if e != api.OK {
		t.Fatal(p, l, c, e)
	}
	out := make([]brought, len(got))
	for i, b := range got {
		out[i] = brought{value(b[0]), value(b[1]), value(b[2])}
	}
	return out
}

func equal(a, b []brought) bool {
	for i := range a {
		for k := range 3 {
			if a[i][k].Cmp(b[i][k]) != 0 {
				return false
			}
		}
	}
	return len(a) == len(b)
}

// P23.4: Exact's ratios lie in Sure's spans, and so do Near's floats; ends stand next to each other, or are the same.
func TestWithin(t *testing.T) {
	r := rand.New(rand.NewSource(31))
	between := 0
	for range 300 {
		p := anyPlan(r, 8, 12)
		l := anyLoads(t, r, p, r.Intn(30), 4)
		a := asked(p, l, anyCombo(r, l))
		if a.errors != [4]api.Errno{} {
			t.Fatal(a)
		}
		for k, s := range a.sure {
			v := value(a.exact[k])
			if exactly(s.Lo).Cmp(v) > 0 || exactly(s.Hi).Cmp(v) < 0 || !span.Has(s, a.near[k]) || !span.Right(s) {
				t.Fatal(v, s, a.near[k])
			}
			if s.Lo != s.Hi {
				between++
				if !same(math.Nextafter(s.Lo, s.Hi), s.Hi) {
					t.Fatal(s)
				}
			}
		}
	}
	if between < 500 {
		t.Error(between)
	}
}

// P23.4: a combination comes to the sum of what its cases come to by themselves, each times its Factor.
func TestCasesByThemselves(t *testing.T) {
	r := rand.New(rand.NewSource(32))
	for range 200 {
		p := anyPlan(r, 8, 12)
		l := anyLoads(t, r, p, r.Intn(40), 16)
		c := anyCombo(r, l)
		want := nothing(len(p.Joints))
		for _, x := range c.Parts {
			for i, b := range allJoints(t, p, l, once(x.Case)) {
				want[i] = plus(want[i], scaled(exactly(x.Factor), b))
			}
		}
		tells(t, p, l, c, want...)
	}
}

// less is a less b.
func less(a, b *big.Rat) *big.Rat { return new(big.Rat).Sub(a, b) }

// moment is what l comes to about a point, in all.
func moment(p api.Plan, l []brought, x, y *big.Rat) *big.Rat {
	all := new(big.Rat)
	for i, b := range l {
		awayX, awayY := less(whole(int64(p.Joints[i].X)), x), less(whole(int64(p.Joints[i].Y)), y)
		all = sum(all, b[2], less(times(awayX, b[1]), times(awayY, b[0])))
	}
	return all
}

// P23.4: what a uniform load brings is, in all, a push downwards of Y times |dx| in the middle of its member; it has the same moment about any point.
func TestPushInAll(t *testing.T) {
	r := rand.New(rand.NewSource(33))
	for range 400 {
		p := anyPlan(r, 6, 1)
		m := p.Members[0]
		a, b := p.Joints[m.A], p.Joints[m.B]
		y := anyNumber(r)
		all := allJoints(t, p, []api.Load{uniform("w", 0, y)}, once("w"))
		pushed := bring(0, 0, 0)
		for i, x := range all {
			pushed = plus(pushed, x)
			if i != m.A && i != m.B && !equal([]brought{x}, nothing(1)) {
				t.Fatal("brought elsewhere:", p, all)
			}
		}
		q := new(big.Rat).Abs(whole(int64(b.X) - int64(a.X)))
		q.Mul(q, counted(y))
		if pushed[0].Sign() != 0 || pushed[1].Cmp(new(big.Rat).Neg(q)) != 0 {
			t.Fatal(p, all)
		}
		middle := over(int64(a.X)+int64(b.X), 2)
		for range 3 {
			x, y := over(int64(r.Intn(1<<22)-1<<21), int64(1+r.Intn(99))), over(int64(r.Intn(1<<22)-1<<21), int64(1+r.Intn(99)))
			want := times(q, less(x, middle))
			if moment(p, all, x, y).Cmp(want) != 0 {
				t.Fatal(p, all, x, y, want)
			}
		}
	}
}

// P23.4: members turned about are brought the same, to the bit.
func TestTurnedAbout(t *testing.T) {
	r := rand.New(rand.NewSource(34))
	for range 200 {
		p := anyPlan(r, 8, 12)
		l := anyLoads(t, r, p, 1+r.Intn(30), 4)
		c := anyCombo(r, l)
		q := copied(p)
		k := r.Intn(len(p.Members))
		for i, m := range p.Members {
			if i == k || r.Intn(2) == 0 {
				q.Members[i].A, q.Members[i].B, q.Members[i].HingeA, q.Members[i].HingeB = m.B, m.A, m.HingeB, m.HingeA
			}
		}
		if got, want := asked(q, l, c), asked(p, l, c); !sameAnswers(got, want) {
			t.Fatal(p, l, c, got, want)
		}
	}
}

// P23.4: loads in another order come to the same; so do parts.
func TestInAnyOrder(t *testing.T) {
	r := rand.New(rand.NewSource(35))
	for range 200 {
		p := anyPlan(r, 8, 12)
		l := anyLoads(t, r, p, 1+r.Intn(40), 4)
		c := anyCombo(r, l)
		want := asked(p, l, c)
		for range 3 {
			r.Shuffle(len(l), func(i, k int) { l[i], l[k] = l[k], l[i] })
			r.Shuffle(len(c.Parts), func(i, k int) { c.Parts[i], c.Parts[k] = c.Parts[k], c.Parts[i] })
			if got := asked(p, l, c); !sameAnswers(got, want) {
				t.Fatal(p, l, c, got, want)
			}
		}
	}
}

// P5: a plan that is moved as a whole is brought the same, to the bit.
func TestMovedAsAWhole(t *testing.T) {
	r := rand.New(rand.NewSource(36))
	moved := 0
	for range 300 {
		p := anyPlan(r, 5, 8)
		l := anyLoads(t, r, p, 1+r.Intn(20), 3)
		c := anyCombo(r, l)
		q := copied(p)
		x, y := int32(r.Intn(1<<20)-1<<19), int32(r.Intn(1<<20)-1<<19)
		for i := range q.Joints {
			q.Joints[i].X += x
			q.Joints[i].Y += y
		}
		if e, _ := bars.Check(q); e != api.OK {
			continue
		}
		moved++
		if got, want := asked(q, l, c), asked(p, l, c); !sameAnswers(got, want) {
			t.Fatal(p, l, c, got, want)
		}
	}
	if moved < 50 {
		t.Error(moved)
	}
}

// P5: with all loads times a power of two all comes to so many times as much.
func TestLoadsTimesPowers(t *testing.T) {
	r := rand.New(rand.NewSource(37))
	for range 200 {
		p := anyPlan(r, 8, 12)
		l := anyLoads(t, r, p, 1+r.Intn(20), 3)
		k := r.Intn(41) - 20
		power := float32(math.Ldexp(1, k))
		more := make([]api.Load, len(l))
		for i, x := range l {
			for _, n := range []*float32{&x.X, &x.Y, &x.Turn} {
				if size := math.Abs(float64(*n)); size < 0x1p-100 || size > 0x1p30 {
					*n = 0
				}
			}
			l[i], more[i] = x, x
			more[i].X, more[i].Y, more[i].Turn = x.X*power, x.Y*power, x.Turn*power
		}
		c := anyCombo(r, l)
		want := allJoints(t, p, l, c)
		for i, b := range want {
			want[i] = scaled(exactly(float64(power)), b)
		}
		tells(t, p, more, c, want...)
	}
}
