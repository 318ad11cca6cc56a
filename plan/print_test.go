package plan_test

import (
	"math"
	"math/rand"
	"strings"
	"testing"

	"girder/api"
	"girder/bars"
	"girder/plan"
)

// prints fails unless p is told as want.
func prints(t *testing.T, p api.Plan, want string) {
	t.Helper()
	if text, e := plan.Print(p); text != want || e != api.OK {
		t.Errorf("%+v: %q, %d, not %q", p, text, e, want)
	}
}

// refused fails unless Print tells that error, and nothing beside it.
func refused(t *testing.T, p api.Plan, want api.Errno) {
	t.Helper()
	if text, e := plan.Print(p); text != "" || e != want {
		t.Errorf("%+v: %q, %d, not %d", p, text, e, want)
	}
	if e, _ := bars.Check(p); e != want {
		t.Errorf("%+v: Check tells %d, not %d", p, e, want)
	}
}

// P20.2: the words of joints and members.
func TestPrint(t *testing.T) {
	prints(t, api.Plan{}, "")
	for fix, tail := range []string{"", " fix x", " fix y", " fix x y", " fix turn", " fix x turn", " fix y turn", " fix x y turn"} {
		prints(t, oneJoint("abcdefgh", -1<<20, 1<<20, uint8(fix)), "joint abcdefgh -1048576 1048576"+tail+"\n")
	}
	prints(t, oneJoint("j", 0, -7, 0), "joint j 0 -7\n")
	for i, tail := range []string{"", " hinge a", " hinge b", " hinge a hinge b"} {
		m := api.Member{Name: "m", Kind: api.Beam, A: 1, B: 0, E: 0.1, Area: 1e16, I: 1e-5, HingeA: i&1 != 0, HingeB: i&2 != 0}
		prints(t, between(m), two+"beam m b a 0.1 1e16 1e-5"+tail+"\n")
	}
	prints(t, between(api.Member{Name: "m9", Kind: api.Bar, B: 1, E: 0x1p60, Area: 0x1p-60}), two+"bar m9 a b 1.152921504606847e18 8.673617379884035e-19\n")
	prints(t, between(api.Member{Name: "a", Kind: api.Bar, B: 1, E: 1.5, Area: 1e15}), two+"bar a a b 1.5 1000000000000000\n")
}

// P20.2: plans that may not be.
func TestPrintRefuses(t *testing.T) {
	good := api.Member{Name: "m", Kind: api.Bar, B: 1, E: 1, Area: 1}
	for _, change := range []func(m *api.Member){
		func(m *api.Member) { m.Name = "" },
		func(m *api.Member) { m.Name = "M" },
		func(m *api.Member) { m.Name = "abcdefghi" },
		func(m *api.Member) { m.Name = "a b" },
		func(m *api.Member) { m.Name = "a\nb" },
		func(m *api.Member) { m.Kind = 0 },
		func(m *api.Member) { m.Kind = 3 },
		func(m *api.Member) { m.Kind = api.Beam }, // its I is 0
		func(m *api.Member) { m.B = 0 },
		func(m *api.Member) { m.B = 2 },
		func(m *api.Member) { m.A = -1 },
		func(m *api.Member) { m.A = math.MinInt },
		func(m *api.Member) { m.B = math.MaxInt },
		func(m *api.Member) { m.HingeA = true },
		func(m *api.Member) { m.HingeB = true },
		func(m *api.Member) { m.E = math.NaN() },
		func(m *api.Member) { m.E = math.Inf(1) },
		func(m *api.Member) { m.E = 0 },
		func(m *api.Member) { m.Area = 0x1p61 },
		func(m *api.Member) { m.Area = -1 },
		func(m *api.Member) { m.Area = math.Nextafter(0x1p-60, 0) },
		func(m *api.Member) { m.I = 1 },
		func(m *api.Member) { m.I = minusNought },
		func(m *api.Member) { m.I = math.NaN() },
	} {
		m := good
		change(&m)
		refused(t, between(m), api.ErrMember)
		refused(t, between(api.Member{Name: "n", Kind: api.Bar, B: 1, E: 1, Area: 1}, m), api.ErrMember)
		refused(t, api.Plan{Joints: []api.Joint{{Name: "a"}, {Name: "b"}}, Members: []api.Member{m}}, api.ErrJoint)
	}
	refused(t, between(good, good), api.ErrMember)
	refused(t, api.Plan{Members: []api.Member{good}}, api.ErrMember)
	refused(t, oneJoint("", 0, 0, 0), api.ErrJoint)
	refused(t, oneJoint("A", 0, 0, 0), api.ErrJoint)
	refused(t, oneJoint("a b", 0, 0, 0), api.ErrJoint)
	refused(t, oneJoint("a", 1<<20+1, 0, 0), api.ErrJoint)
	refused(t, oneJoint("a", 0, math.MinInt32, 0), api.ErrJoint)
	refused(t, oneJoint("a", 0, 0, 8), api.ErrJoint)
	refused(t, oneJoint("a", 0, 0, 255), api.ErrJoint)
	refused(t, api.Plan{Joints: make([]api.Joint, 17)}, api.ErrLong)
	refused(t, api.Plan{Joints: make([]api.Joint, 16)}, api.ErrJoint)
	refused(t, api.Plan{Joints: make([]api.Joint, 17), Members: make([]api.Member, 49)}, api.ErrLong)
	refused(t, between(make([]api.Member, 49)...), api.ErrLong)
	refused(t, between(make([]api.Member, 48)...), api.ErrMember)
	refused(t, api.Plan{Joints: make([]api.Joint, 1), Members: make([]api.Member, 49)}, api.ErrJoint)
}

// P20.2, P20.4: what Print tells is what the chapter's words are, and is read as the Same plan.
func TestPrintAndRead(t *testing.T) {
	r := rand.New(rand.NewSource(24))
	most := 0
	for i := range 3000 {
		p := anyPlan(r, 6, 8)
		if i%10 == 0 {
			p = anyPlan(r, 16, 48)
		}
		most = max(most, len(p.Members))
		text, e := plan.Print(p)
		if want := told(p, plainly); text != want || e != api.OK {
			t.Fatalf("%+v: %q, %d, not %q", p, text, e, want)
		}
		again, spot := plan.Parse(text)
		if spot != (api.Spot{}) || !plan.Same(again, p) || !equal(again, p) {
			t.Fatalf("%q: %+v, %v, not %+v", text, again, spot, p)
		}
	}
	if most < 40 {
		t.Error(most)
	}
}

// P20.4: what Parse reads may be, and is told as a text that reads as the Same.
func TestReadAndPrint(t *testing.T) {
	r := rand.New(rand.NewSource(25))
	many := 0
	for range 4000 {
		text := spoilt(r, told(anyPlan(r, 6, 8), plainly))
		p, spot := plan.Parse(text)
		if spot.Err != api.OK {
			continue
		}
		many++
		if e, place := bars.Check(p); e != api.OK || place != 0 {
			t.Fatalf("%q: %d at %d", text, e, place)
		}
		out, e := plan.Print(p)
		again, spot := plan.Parse(out)
		if e != api.OK || spot != (api.Spot{}) || !plan.Same(p, again) {
			t.Fatalf("%q, %q: %d, %v", text, out, e, spot)
		}
		if twice, _ := plan.Print(again); twice != out {
			t.Fatalf("%q, %q", out, twice)
		}
	}
	if many < 500 {
		t.Error(many)
	}
}

// P20.3: unlike in one field alone.
func TestSameFieldByField(t *testing.T) {
	base := must(example)
	if !plan.Same(base, copied(base)) {
		t.Error("a copy")
	}
	joints := []func(j *api.Joint){
		func(j *api.Joint) { j.Name += "q" },
		func(j *api.Joint) { j.Name = "A" },
		func(j *api.Joint) { j.X++ },
		func(j *api.Joint) { j.Y-- },
		func(j *api.Joint) { j.X = math.MinInt32 },
		func(j *api.Joint) { j.Fix ^= 4 },
		func(j *api.Joint) { j.Fix ^= 128 },
		func(j *api.Joint) { j.X, j.Y = j.Y+1, j.X },
	}
	members := []func(m *api.Member){
		func(m *api.Member) { m.Name += "q" },
		func(m *api.Member) { m.Name = "" },
		func(m *api.Member) { m.Kind ^= 3 },
		func(m *api.Member) { m.Kind = 255 },
		func(m *api.Member) { m.A += 1000 },
		func(m *api.Member) { m.B = math.MinInt },
		func(m *api.Member) { m.A, m.B = m.B, m.A },
		func(m *api.Member) { m.HingeA = !m.HingeA },
		func(m *api.Member) { m.HingeB = !m.HingeB },
		func(m *api.Member) { m.E = math.Nextafter(m.E, 0) },
		func(m *api.Member) { m.E = math.NaN() },
		func(m *api.Member) { m.E = -m.E },
		func(m *api.Member) { m.Area = math.Nextafter(m.Area, math.Inf(1)) },
		func(m *api.Member) { m.Area = math.Inf(1) },
		func(m *api.Member) { m.I = -m.I }, // of a bar, too
		func(m *api.Member) { m.I = math.NaN() },
	}
	for i := range 3 {
		for k, change := range joints {
			unlike := copied(base)
			change(&unlike.Joints[i])
			apart(t, base, unlike, k)
		}
		for k, change := range members {
			unlike := copied(base)
			change(&unlike.Members[i])
			apart(t, base, unlike, k)
		}
	}
}

// apart fails unless both are told as unlike, each as the Same as its copy.
func apart(t *testing.T, a, b api.Plan, k int) {
	t.Helper()
	if plan.Same(a, b) || plan.Same(b, a) || equal(a, b) {
		t.Errorf("%d: %+v and %+v are told as the same", k, a, b)
	}
	if !plan.Same(a, copied(a)) || !plan.Same(b, copied(b)) {
		t.Errorf("%d: %+v or %+v is told as unlike itself", k, a, b)
	}
}

// P20.3: floats are the same by their bits, what is no number aside.
func TestSameFloats(t *testing.T) {
	floats := []float64{0, minusNought, 1, -1, math.Inf(1), math.Inf(-1), math.NaN(), math.Float64frombits(0xfff8000000000001), math.Float64frombits(0x7ff0000000000001), 0x1p-1074, -0x1p-1074, math.MaxFloat64}
	fields := []func(m *api.Member, x float64){
		func(m *api.Member, x float64) { m.E = x },
		func(m *api.Member, x float64) { m.Area = x },
		func(m *api.Member, x float64) { m.I = x },
	}
	for _, x := range floats {
		for _, y := range floats {
			want := math.Float64bits(x) == math.Float64bits(y) || x != x && y != y
			for k, set := range fields {
				a, b := must(example), must(example)
				set(&a.Members[1], x)
				set(&b.Members[1], y)
				if plan.Same(a, b) != want {
					t.Error(k, x, y, !want)
				}
			}
		}
	}
}

// P20.3: how many there are, and their order.
func TestSameLists(t *testing.T) {
	base := must(example)
	for n := range 3 {
		apart(t, base, api.Plan{Joints: base.Joints[:n], Members: base.Members}, n)
		apart(t, base, api.Plan{Joints: base.Joints, Members: base.Members[:n]}, n)
		apart(t, base, api.Plan{Joints: base.Joints[n+1:], Members: base.Members}, n)
		apart(t, base, api.Plan{Joints: base.Joints, Members: base.Members[n+1:]}, n)
	}
	turned := copied(base)
	turned.Joints[0], turned.Joints[1] = turned.Joints[1], turned.Joints[0]
	apart(t, base, turned, 0)
	turned = copied(base)
	turned.Members[0], turned.Members[1] = turned.Members[1], turned.Members[0]
	apart(t, base, turned, 1)
	apart(t, base, api.Plan{}, 2)
	apart(t, api.Plan{Joints: make([]api.Joint, 1)}, api.Plan{Members: make([]api.Member, 1)}, 3)
	apart(t, api.Plan{Members: make([]api.Member, 5000)}, api.Plan{Members: make([]api.Member, 5001)}, 4)

	none := api.Plan{Joints: []api.Joint{}, Members: []api.Member{}}
	if !plan.Same(api.Plan{}, none) || !plan.Same(none, api.Plan{}) || !plan.Same(api.Plan{Joints: base.Joints[:0]}, none) {
		t.Error("none")
	}
	// One list's room, or that both are one list, plays no part.
	if !plan.Same(base, base) || !plan.Same(base, api.Plan{Joints: base.Joints[:3:3], Members: append(copied(base).Members, api.Member{})[:3]}) {
		t.Error("room")
	}
}

// P20.3: members by their names, in any plan.
func TestMember(t *testing.T) {
	named := func(names ...string) api.Plan {
		var p api.Plan
		for _, n := range names {
			p.Members = append(p.Members, api.Member{Name: n})
		}
		return p
	}
	long := strings.Repeat("q", 1000)
	for _, c := range []struct {
		p    api.Plan
		name string
		at   int
		ok   bool
	}{
		{api.Plan{}, "", 0, false},
		{api.Plan{}, "a", 0, false},
		{named("a"), "a", 0, true},
		{named("a"), "", 0, false},
		{named("a"), "A", 0, false},
		{named("a"), "ab", 0, false},
		{named("ab"), "a", 0, false},
		{named("a", "b", "c"), "b", 1, true},
		{named("a", "b", "c"), "c", 2, true},
		{named("a", "b", "c"), "d", 0, false},
		{named("x", "a", "b", "a", "a"), "a", 1, true},
		{named("x", "", "", "A", "a\x00"), "", 1, true},
		{named("x", "", "", "A", "a\x00"), "A", 3, true},
		{named("x", "", "", "A", "a\x00"), "a\x00", 4, true},
		{named("x", "", "", "A", "a\x00"), "a", 0, false},
		{named("\xff", long), long, 1, true},
		{named("\xff", long), "\xff", 0, true},
		{named("\xff", long), "\ufffd", 0, false},
		{must(example), "ab", 0, true},
		{must(example), "ac", 1, true},
		{must(example), "bc", 2, true},
		{must(example), "a", 0, false}, // a joint's
		{api.Plan{Joints: []api.Joint{{Name: "a"}}}, "a", 0, false},
	} {
		if at, ok := plan.Member(c.p, c.name); at != c.at || ok != c.ok {
			t.Errorf("%q of %+v: %d, %v, not %d, %v", c.name, c.p, at, ok, c.at, c.ok)
		}
	}
	many := must(two + memberLines(48))
	for i, m := range many.Members {
		if at, ok := plan.Member(many, m.Name); at != i || !ok {
			t.Error(i, at, ok)
		}
	}
}
