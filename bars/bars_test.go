package bars_test

import (
	"math"
	"math/rand"
	"slices"
	"strings"
	"testing"

	"girder/api"
	"girder/bars"
	"girder/bits"
)

const (
	edge  = int32(1 << 20) // the greatest size of a coordinate
	least = 0x1p-60        // of E, Area, I
	most  = 0x1p60
)

var minusNought = math.Copysign(0, -1)

// bar is one from the joint a to the joint b.
func bar(a, b int) api.Member {
	return api.Member{Name: "m", Kind: api.Bar, A: a, B: b, E: 2, Area: 5}
}

// beam is one from the joint a to the joint b, with hinges where they are told.
func beam(a, b int, hingeA, hingeB bool) api.Member {
	return api.Member{Name: "m", Kind: api.Beam, A: a, B: b, HingeA: hingeA, HingeB: hingeB, E: 2, Area: 5, I: 7}
}

// three is the chapter's joints, from a to b 3 along x and 4 along y, with these members.
func three(members ...api.Member) api.Plan {
	return api.Plan{Joints: []api.Joint{{Name: "a"}, {Name: "b", X: 3, Y: 4}}, Members: members}
}

// short is a name for each number up to 675.
func short(i int) string { return "m" + string(rune('a'+i/26)) + string(rune('a'+i%26)) }

// grid is n joints that may be.
func grid(n int) []api.Joint {
	l := make([]api.Joint, n)
	for i := range l {
		l[i] = api.Joint{Name: "j" + string(rune('a'+i)), X: int32(i % 4 * 3), Y: int32(i / 4 * 5)}
	}
	return l
}

// frame is n members, of all kinds, between many joints that may be.
func frame(n int) api.Plan {
	p := api.Plan{Joints: grid(16)}
	for i := range n {
		a, b := i%16, (i%16+1+i/16)%16
		m := []api.Member{bar(a, b), beam(a, b, false, false), beam(a, b, true, false), beam(a, b, false, true), beam(a, b, true, true)}[i%5]
		m.Name = short(i)
		p.Members = append(p.Members, m)
	}
	return p
}

// copied is p in memory of its own.
func copied(p api.Plan) api.Plan {
	return api.Plan{Joints: slices.Clone(p.Joints), Members: slices.Clone(p.Members)}
}

// changed is the plan with its member i changed.
func changed(p api.Plan, i int, change func(m *api.Member)) api.Plan {
	p = copied(p)
	change(&p.Members[i])
	return p
}

func same(a, b float64) bool { return math.Float64bits(a) == math.Float64bits(b) }

func sameMember(a, b api.Member) bool {
	if !same(a.E, b.E) || !same(a.Area, b.Area) || !same(a.I, b.I) {
		return false
	}
	a.E, a.Area, a.I, b.E, b.Area, b.I = 0, 0, 0, 0, 0, 0 // what is no number is unlike itself
	return a == b
}

func checks(t *testing.T, p api.Plan, want api.Errno, place int) {
	t.Helper()
	if e, k := bars.Check(p); e != want || k != place {
		t.Errorf("Check(%+v): %d, %d, not %d, %d", p, e, k, want, place)
	}
	refused(t, p, want)
}

// refused fails unless the calls that come behind Check tell its error, and nothing else beside it.
func refused(t *testing.T, p api.Plan, want api.Errno) {
	t.Helper()
	places, e := bars.Unknowns(p)
	springs, f := bars.Springs(p)
	if e != want || f != want {
		t.Errorf("%+v: %d, %d, not %d", p, e, f, want)
	}
	if want == api.OK {
		return
	}
	stretches, g := bars.Stretch(p, nil)
	if g != want || len(places.Of) != 0 || places.N != 0 || len(springs) != 0 || len(stretches) != 0 {
		t.Errorf("%+v: %v, %v, %v, %d beside %d", p, places, springs, stretches, g, want)
	}
}

// mayJoint is the chapter's words of a joint.
func mayJoint(l []api.Joint, i int) bool {
	j := l[i]
	bad := !mayName(j.Name) || j.Fix > 7 || max(j.X, j.Y) > edge || min(j.X, j.Y) < -edge
	for _, ahead := range l[:i] {
		bad = bad || ahead.Name == j.Name || ahead.X == j.X && ahead.Y == j.Y
	}
	return !bad
}

func mayName(text string) bool {
	const small, digits = "abcdefghijklmnopqrstuvwxyz", "0123456789"
	return text != "" && len(text) <= 8 && strings.IndexByte(small, text[0]) >= 0 && strings.Trim(text, small+digits) == "" && !strings.ContainsFunc(text, func(r rune) bool { return !strings.ContainsRune(small+digits, r) })
}

// mayNumber is from 2^-60 to 2^60, told by the places of floats.
func mayNumber(x float64) bool {
	place, ok := bits.Place(x)
	low, _ := bits.Place(least)
	high, _ := bits.Place(most)
	return ok && place >= low && place <= high
}

// mayMember is the chapter's words of a member.
func mayMember(p api.Plan, i int) bool {
	m, n := p.Members[i], len(p.Joints)
	for _, ahead := range p.Members[:i] {
		if ahead.Name == m.Name {
			return false
		}
	}
	ok := mayName(m.Name) && m.A >= 0 && m.A < n && m.B >= 0 && m.B < n && m.A != m.B && mayNumber(m.E) && mayNumber(m.Area)
	switch m.Kind {
	case 1:
		return ok && !m.HingeA && !m.HingeB && same(m.I, 0)
	case 2:
		return ok && mayNumber(m.I)
	}
	return false
}

// byWords is what Check must tell.
func byWords(p api.Plan) (api.Errno, int) {
	if len(p.Joints) > 16 {
		return api.ErrLong, 0
	}
	for i := range p.Joints {
		if !mayJoint(p.Joints, i) {
			return api.ErrJoint, i
		}
	}
	if len(p.Members) > 48 {
		return api.ErrLong, 0
	}
	for i := range p.Members {
		if !mayMember(p, i) {
			return api.ErrMember, i
		}
	}
	return api.OK, 0
}

// anyNumber is one that E, Area, I may be, now and then at an edge.
func anyNumber(r *rand.Rand) float64 {
	switch r.Intn(6) {
	case 0:
		return least
	case 1:
		return most
	case 2:
		return float64(1 + r.Intn(1000))
	}
	return math.Ldexp(1+r.Float64(), r.Intn(120)-60)
}

// anyCoordinate is now a little one, now any that may be.
func anyCoordinate(r *rand.Rand) int32 {
	switch r.Intn(4) {
	case 0:
		return int32(r.Intn(2<<20+1)) - edge
	case 1:
		return edge - 2*edge*int32(r.Intn(2))
	}
	return int32(r.Intn(21)) - 10
}

// anyPlan is one that may be, with at least two joints.
func anyPlan(r *rand.Rand, members int) api.Plan {
	p := api.Plan{}
	many := 2 + r.Intn(15)
	for len(p.Joints) < many {
		j := api.Joint{Name: "j" + string(rune('a'+len(p.Joints))), X: anyCoordinate(r), Y: anyCoordinate(r), Fix: uint8(r.Intn(8))}
		if longer := append(slices.Clone(p.Joints), j); mayJoint(longer, len(p.Joints)) {
			p.Joints = longer
		}
	}
	for i := range members {
		a := r.Intn(many)
		b := (a + 1 + r.Intn(many-1)) % many
		m := api.Member{Name: short(i), Kind: api.Bar, A: a, B: b, E: anyNumber(r), Area: anyNumber(r)}
		if r.Intn(3) > 0 {
			m.Kind, m.I, m.HingeA, m.HingeB = api.Beam, anyNumber(r), r.Intn(3) == 0, r.Intn(3) == 0
		}
		p.Members = append(p.Members, m)
	}
	return p
}

// The chapter's example 4.
func TestExampleOfFaults(t *testing.T) {
	faults := []func(m *api.Member){
		func(m *api.Member) { m.A, m.B = 0, 0 },
		func(m *api.Member) { m.B = 2 },
		func(m *api.Member) { m.I = 1 },
		func(m *api.Member) { m.I = minusNought },
		func(m *api.Member) { m.HingeA = true },
		func(m *api.Member) { m.HingeB = true },
		func(m *api.Member) { m.E = 0 },
		func(m *api.Member) { m.E = math.NaN() },
		func(m *api.Member) { m.E = 0x1p61 },
		func(m *api.Member) { m.Name = "M" },
		func(m *api.Member) { m.Name = "1a" },
		func(m *api.Member) { m.Name = "" },
		func(m *api.Member) { m.Name = "abcdefghi" },
		func(m *api.Member) { m.Kind = 3 },
	}
	for _, fault := range faults {
		checks(t, changed(three(bar(0, 1)), 0, fault), api.ErrMember, 0)
	}
	checks(t, three(bar(0, 1)), api.OK, 0)
	checks(t, three(bar(0, 1), bar(0, 1)), api.ErrMember, 1)
	checks(t, frame(49), api.ErrLong, 0)
}

// P19.1: no joint, no member, as many members as may be, and more: that counts ahead of what each of them is.
func TestHowMany(t *testing.T) {
	checks(t, api.Plan{}, api.OK, 0)
	checks(t, api.Plan{Joints: []api.Joint{}, Members: []api.Member{}}, api.OK, 0)
	checks(t, api.Plan{Members: []api.Member{bar(0, 1)}}, api.ErrMember, 0)
	checks(t, api.Plan{Members: []api.Member{bar(0, 0)}}, api.ErrMember, 0)
	checks(t, api.Plan{Joints: grid(1), Members: []api.Member{bar(0, 1)}}, api.ErrMember, 0)
	for n := range 17 {
		checks(t, api.Plan{Joints: grid(n)}, api.OK, 0)
	}
	for n := range 49 {
		checks(t, frame(n), api.OK, 0)
	}
	for _, n := range []int{49, 50, 300} {
		checks(t, frame(n), api.ErrLong, 0)
		checks(t, api.Plan{Joints: grid(2), Members: make([]api.Member, n)}, api.ErrLong, 0)
		checks(t, api.Plan{Members: make([]api.Member, n)}, api.ErrLong, 0)
		checks(t, changed(frame(n), 3, func(m *api.Member) { m.E = 0 }), api.ErrLong, 0)
	}
	checks(t, changed(frame(48), 47, func(m *api.Member) { m.E = 0 }), api.ErrMember, 47)
}

// P19.1: what joints.Check tells, with its place, counts ahead of all that is wrong with members.
func TestJointsFirst(t *testing.T) {
	wrong := [][]api.Member{nil, {bar(0, 1)}, {bar(0, 0)}, {{}}, make([]api.Member, 49), frame(49).Members, {bar(0, 15), bar(-1, 99)}}
	for _, members := range wrong {
		for place := range 16 {
			for _, fault := range []func(l []api.Joint){
				func(l []api.Joint) { l[place].Name = "A" },
				func(l []api.Joint) { l[place].X = edge + 1 },
				func(l []api.Joint) { l[place].Fix = 8 },
			} {
				l := grid(16)
				fault(l)
				checks(t, api.Plan{Joints: l, Members: members}, api.ErrJoint, place)
			}
		}
		l := grid(16)
		l[9].Name = l[4].Name
		checks(t, api.Plan{Joints: l, Members: members}, api.ErrJoint, 9)
		l = grid(16)
		l[9].X, l[9].Y = l[4].X, l[4].Y
		checks(t, api.Plan{Joints: l, Members: members}, api.ErrJoint, 9)
		checks(t, api.Plan{Joints: grid(17), Members: members}, api.ErrLong, 0)
		checks(t, api.Plan{Joints: make([]api.Joint, 17), Members: members}, api.ErrLong, 0)
	}
}

// P19.1: which texts are names, of all lengths, with each byte that there is at each place.
func TestNames(t *testing.T) {
	renamed := func(name string) api.Plan {
		return changed(three(bar(0, 1)), 0, func(m *api.Member) { m.Name = name })
	}
	ask := func(name string, may bool) {
		t.Helper()
		if may {
			checks(t, renamed(name), api.OK, 0)
		} else {
			checks(t, renamed(name), api.ErrMember, 0)
		}
	}
	for n := range 12 {
		for _, sample := range []string{"abcdefghijkl", "z0z9z0z9z0z9", "a00000000000"} {
			ask(sample[:n], 1 <= n && n <= 8)
		}
	}
	whole := "abcdefgh"
	for b := range 256 {
		small, digit := 'a' <= b && b <= 'z', '0' <= b && b <= '9'
		for place := range whole {
			may := small || digit && place > 0
			ask(whole[:place]+string([]byte{byte(b)})+whole[place+1:], may)
			ask(whole[:place]+string([]byte{byte(b)}), may)
		}
	}
	for _, text := range []string{"é", "aé", "a１", "ａ", "a\xff", "\xff", "a\ufffd", "ß", "a\u0661", "-a", "+a", "_a", "a b", " a", "a ", "a\n", "aB", "Ab", "0", "9z", strings.Repeat("a", 1<<16)} {
		ask(text, false)
	}
}

// P19.1: a member's name may be a joint's, but no member's ahead.
func TestNamesTwice(t *testing.T) {
	p := frame(48)
	for i := range p.Members {
		checks(t, changed(p, i, func(m *api.Member) { m.Name = p.Joints[i%16].Name }), api.OK, 0)
		for k := range i {
			checks(t, changed(p, i, func(m *api.Member) { m.Name = p.Members[k].Name }), api.ErrMember, i)
		}
	}
	both := three(bar(0, 1), bar(1, 0))
	both.Members[0].Name, both.Members[1].Name = "a", "b"
	checks(t, both, api.OK, 0)
	for _, names := range [][2]string{{"a", "ab"}, {"ab", "a"}, {"abcdefgh", "abcdefgi"}, {"a0", "a00"}, {"b", "ab"}} {
		both.Members[0].Name, both.Members[1].Name = names[0], names[1]
		checks(t, both, api.OK, 0)
	}
	// Two members may lead between the same joints, and be alike in all but their names.
	both.Members[1] = both.Members[0]
	both.Members[1].Name = "other"
	checks(t, both, api.OK, 0)
}

// P19.1: Kind.
func TestKinds(t *testing.T) {
	for kind := range 256 {
		k := api.MemberKind(kind)
		p := changed(three(bar(0, 1)), 0, func(m *api.Member) { m.Kind = k })
		q := changed(three(beam(0, 1, true, false)), 0, func(m *api.Member) { m.Kind = k })
		switch kind {
		case 1:
			checks(t, p, api.OK, 0)
			checks(t, q, api.ErrMember, 0)
		case 2:
			checks(t, p, api.ErrMember, 0)
			checks(t, q, api.OK, 0)
		default:
			checks(t, p, api.ErrMember, 0)
			checks(t, q, api.ErrMember, 0)
		}
	}
}

// P19.1: A and B are places of joints, unlike ones.
func TestEnds(t *testing.T) {
	far := []int{math.MinInt, math.MinInt + 1, math.MinInt32, -17, -2, -1, 0, 1, 2, 3, 4, 15, 16, 17, 1 << 32, 1<<32 + 1, math.MaxInt - 1, math.MaxInt}
	for _, n := range []int{0, 1, 2, 3, 16} {
		for _, a := range far {
			for _, b := range far {
				for _, m := range []api.Member{bar(a, b), beam(a, b, false, true)} {
					p := api.Plan{Joints: grid(n), Members: []api.Member{m}}
					if a >= 0 && b >= 0 && a < n && b < n && a != b {
						checks(t, p, api.OK, 0)
					} else {
						checks(t, p, api.ErrMember, 0)
					}
				}
			}
		}
	}
}

// P19.1: a bar has no hinge, and an I that is the same as +0; a beam may have hinges at both ends.
func TestBars(t *testing.T) {
	for _, hingeA := range []bool{false, true} {
		for _, hingeB := range []bool{false, true} {
			want := api.OK
			if hingeA || hingeB {
				want = api.ErrMember
			}
			checks(t, changed(three(bar(0, 1)), 0, func(m *api.Member) { m.HingeA, m.HingeB = hingeA, hingeB }), want, 0)
			checks(t, three(beam(0, 1, hingeA, hingeB)), api.OK, 0)
		}
	}
	for _, i := range []float64{minusNought, 1, -1, least, most, 0x1p-1074, -0x1p-1074, math.NaN(), math.Float64frombits(1<<63 | 0x7FF8000000000000), math.Inf(1), math.Inf(-1)} {
		checks(t, changed(three(bar(0, 1)), 0, func(m *api.Member) { m.I = i }), api.ErrMember, 0)
	}
}

// P19.1: E, Area, and of a beam I, up to both edges, each by itself; I of a beam with two hinges, too.
func TestNumbers(t *testing.T) {
	fields := []func(m *api.Member) *float64{
		func(m *api.Member) *float64 { return &m.E },
		func(m *api.Member) *float64 { return &m.Area },
		func(m *api.Member) *float64 { return &m.I },
	}
	may := []float64{least, bits.Next(least, true), 1, 0.1, 1e9, bits.Next(most, false), most}
	mayNot := []float64{
		bits.Next(least, false), 0x1p-61, bits.Next(most, true), 0x1p61, 0, minusNought, -1, -least, -most, 0x1p-1074, -0x1p-1074,
		math.MaxFloat64, -math.MaxFloat64, math.Inf(1), math.Inf(-1), math.NaN(), math.Float64frombits(0xFFF8000000000000), math.Float64frombits(0x7FF0000000000001),
	}
	ask := func(x float64, want api.Errno) {
		for _, m := range []api.Member{bar(0, 1), beam(0, 1, false, false), beam(0, 1, true, false), beam(0, 1, true, true)} {
			for k, field := range fields {
				if m.Kind == api.Bar && k == 2 {
					continue
				}
				checks(t, changed(three(m), 0, func(m *api.Member) { *field(m) = x }), want, 0)
			}
		}
	}
	for _, x := range may {
		ask(x, api.OK)
	}
	for _, x := range mayNot {
		ask(x, api.ErrMember)
	}
}

// P19.1, R2: of several faults the first member's counts, of whichever kind.
func TestFirstFault(t *testing.T) {
	faults := []func(m *api.Member){
		func(m *api.Member) { m.Name = "" },
		func(m *api.Member) { m.Name = short(0) }, // the first one's
		func(m *api.Member) { m.Kind = 0 },
		func(m *api.Member) { m.A = m.B },
		func(m *api.Member) { m.A = -1 },
		func(m *api.Member) { m.B = 16 },
		func(m *api.Member) { m.E = 0 },
		func(m *api.Member) { m.Area = math.NaN() },
		func(m *api.Member) { m.I = -1 },
	}
	for _, one := range faults {
		for _, other := range faults {
			for first := 1; first < 7; first++ {
				for second := first; second < 8; second++ {
					p := changed(frame(8), second, other)
					one(&p.Members[first])
					checks(t, p, api.ErrMember, first)
				}
			}
		}
	}
	// A member that may not be is told, though its name stands again behind it.
	checks(t, changed(three(bar(0, 1), bar(0, 1)), 0, func(m *api.Member) { m.E = 0 }), api.ErrMember, 0)
}

// spoilt is p with some of it changed to what may not be, as a rule.
func spoilt(r *rand.Rand, p api.Plan) api.Plan {
	p = copied(p)
	if r.Intn(4) == 0 {
		j := &p.Joints[r.Intn(len(p.Joints))]
		switch r.Intn(4) {
		case 0:
			j.Name = []string{"", "A", "ja", "jb", "é"}[r.Intn(5)]
		case 1:
			j.X += int32(r.Intn(3)) - 1
		case 2:
			j.Y = edge + int32(r.Intn(2))
		case 3:
			j.Fix = uint8(r.Intn(20))
		}
	}
	for range r.Intn(3) {
		if len(p.Members) == 0 {
			break
		}
		m := &p.Members[r.Intn(len(p.Members))]
		odd := []float64{0, minusNought, least, bits.Next(least, false), most, bits.Next(most, true), math.NaN(), math.Inf(1), -1}
		switch r.Intn(8) {
		case 0:
			m.Name = []string{"", "A", "maa", "mab", "a_", "abcdefghi", "ja"}[r.Intn(7)]
		case 1:
			m.Kind = api.MemberKind(r.Intn(4))
		case 2:
			m.A = r.Intn(19) - 1
		case 3:
			m.B = r.Intn(19) - 1
		case 4:
			m.HingeA = !m.HingeA
		case 5:
			m.E = odd[r.Intn(len(odd))]
		case 6:
			m.Area = odd[r.Intn(len(odd))]
		case 7:
			m.I = odd[r.Intn(len(odd))]
		}
	}
	return p
}

// P19.1: many plans, against the chapter's words.
func TestCheckByWords(t *testing.T) {
	r := rand.New(rand.NewSource(19))
	told := map[api.Errno]int{}
	for range 20000 {
		p := spoilt(r, anyPlan(r, r.Intn(51)))
		e, k := byWords(p)
		told[e]++
		checks(t, p, e, k)
	}
	for _, e := range []api.Errno{api.OK, api.ErrLong, api.ErrJoint, api.ErrMember} {
		if told[e] < 500 {
			t.Error(told)
		}
	}
}

func numbered(t *testing.T, p api.Plan, n int, want ...[3]int) {
	t.Helper()
	places, e := bars.Unknowns(p)
	if e != api.OK || places.N != n || !slices.Equal(places.Of, want) {
		t.Errorf("Unknowns(%+v): %v, %d, not %d, %v", p, places, e, n, want)
	}
}

// The unknowns of the chapter's examples 1 and 2.
func TestExamplesOfUnknowns(t *testing.T) {
	numbered(t, three(bar(0, 1)), 4, [3]int{0, 1, -1}, [3]int{2, 3, -1})
	numbered(t, three(beam(0, 1, false, false)), 6, [3]int{0, 1, 2}, [3]int{3, 4, 5})
	numbered(t, three(beam(0, 1, false, true)), 5, [3]int{0, 1, 2}, [3]int{3, 4, -1})
	numbered(t, three(beam(0, 1, true, false)), 5, [3]int{0, 1, -1}, [3]int{2, 3, 4})
	numbered(t, three(beam(0, 1, true, true)), 4, [3]int{0, 1, -1}, [3]int{2, 3, -1})
}

// P19.2: what is held at a joint in each of its eight ways, with a beam there, and without.
func TestHeld(t *testing.T) {
	turns := map[uint8][3]int{0: {0, 1, 2}, 1: {-1, 0, 1}, 2: {0, -1, 1}, 3: {-1, -1, 0}, 4: {0, 1, -1}, 5: {-1, 0, -1}, 6: {0, -1, -1}, 7: {-1, -1, -1}}
	bare := map[uint8][3]int{0: {0, 1, -1}, 1: {-1, 0, -1}, 2: {0, -1, -1}, 3: {-1, -1, -1}, 4: {0, 1, -1}, 5: {-1, 0, -1}, 6: {0, -1, -1}, 7: {-1, -1, -1}}
	many := func(of [3]int) int { return max(of[0], of[1], of[2]) + 1 }
	for fix := range uint8(8) {
		held := func(p api.Plan) api.Plan {
			p.Joints[0].Fix, p.Joints[1].Fix = fix, 7
			return p
		}
		rest := [3]int{-1, -1, -1}
		numbered(t, held(three(beam(0, 1, false, false))), many(turns[fix]), turns[fix], rest)
		numbered(t, held(three(beam(0, 1, false, true))), many(turns[fix]), turns[fix], rest)
		numbered(t, held(three(beam(1, 0, true, false))), many(turns[fix]), turns[fix], rest)
		numbered(t, held(three(beam(0, 1, true, false))), many(bare[fix]), bare[fix], rest)
		numbered(t, held(three(beam(1, 0, false, true))), many(bare[fix]), bare[fix], rest)
		numbered(t, held(three(bar(0, 1))), many(bare[fix]), bare[fix], rest)
		numbered(t, held(three()), many(bare[fix]), bare[fix], rest)
	}
}

// P19.2: joints that no member meets, or bars, or hinges alone, have no turn; one beam without a hinge is enough, whatever else is there.
func TestTurns(t *testing.T) {
	numbered(t, api.Plan{}, 0)
	numbered(t, three(), 4, [3]int{0, 1, -1}, [3]int{2, 3, -1})
	p := api.Plan{Joints: grid(6), Members: []api.Member{bar(0, 1), beam(1, 2, true, true), beam(2, 3, true, false), beam(4, 2, true, true), beam(3, 4, true, true)}}
	for i := range p.Members {
		p.Members[i].Name = short(i)
	}
	numbered(t, p, 13, [3]int{0, 1, -1}, [3]int{2, 3, -1}, [3]int{4, 5, -1}, [3]int{6, 7, 8}, [3]int{9, 10, -1}, [3]int{11, 12, -1})
	p.Members[1].HingeB = false
	numbered(t, p, 14, [3]int{0, 1, -1}, [3]int{2, 3, -1}, [3]int{4, 5, 6}, [3]int{7, 8, 9}, [3]int{10, 11, -1}, [3]int{12, 13, -1})
	slices.Reverse(p.Members)
	numbered(t, p, 14, [3]int{0, 1, -1}, [3]int{2, 3, -1}, [3]int{4, 5, 6}, [3]int{7, 8, 9}, [3]int{10, 11, -1}, [3]int{12, 13, -1})
	full := api.Plan{Joints: grid(16)}
	for i := range 8 {
		m := beam(2*i, 2*i+1, false, false)
		m.Name = short(i)
		full.Members = append(full.Members, m)
	}
	want := make([][3]int, 16)
	for i := range want {
		want[i] = [3]int{3 * i, 3*i + 1, 3*i + 2}
	}
	numbered(t, full, 48, want...)
}

// P19.2: many plans, against the words.
func TestUnknownsByWords(t *testing.T) {
	r := rand.New(rand.NewSource(2))
	for range 3000 {
		p := anyPlan(r, r.Intn(20))
		n := 0
		want := [][3]int{}
		for i, j := range p.Joints {
			turns := slices.ContainsFunc(p.Members, func(m api.Member) bool {
				return m.Kind == api.Beam && (m.A == i && !m.HingeA || m.B == i && !m.HingeB)
			})
			of := [3]int{-1, -1, -1}
			for k, held := range []bool{j.Fix%2 == 1, j.Fix/2%2 == 1, j.Fix/4 == 1 || !turns} {
				if !held {
					of[k] = n
					n++
				}
			}
			want = append(want, of)
		}
		numbered(t, p, n, want...)
	}
}
