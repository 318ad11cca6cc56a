package joints_test

import (
	"math"
	"math/big"
	"math/rand"
	"slices"
	"strings"
	"testing"

	"girder/api"
	"girder/bits"
	"girder/joints"
	"girder/round"
)

const (
	edge    = int32(1 << 20) // the greatest size of a coordinate
	nowhere = -1             // a place that Find does not tell
)

// at is a joint that may be.
func at(x, y int32) api.Joint { return api.Joint{Name: "a", X: x, Y: y} }

// named is joints of these names, each at a point of its own.
func named(names ...string) []api.Joint {
	l := make([]api.Joint, len(names))
	for i, name := range names {
		l[i] = api.Joint{Name: name, X: int32(i)}
	}
	return l
}

// row is n joints that may be.
func row(n int) []api.Joint {
	l := make([]api.Joint, n)
	for i := range l {
		l[i] = api.Joint{Name: "j" + string(rune('a'+i)), X: int32(i), Y: -int32(i), Fix: uint8(i % 8)}
	}
	return l
}

// changed is row(n) with some joints changed.
func changed(n int, change func(l []api.Joint)) []api.Joint {
	l := row(n)
	change(l)
	return l
}

func checks(t *testing.T, l []api.Joint, want api.Errno, place int) {
	t.Helper()
	if e, k := joints.Check(l); e != want || k != place {
		t.Errorf("Check(%#v): %d, %d, not %d, %d", l, e, k, want, place)
	}
}

func finds(t *testing.T, l []api.Joint, name string, place int) {
	t.Helper()
	k, ok := joints.Find(l, name)
	if place == nowhere && (ok || k != 0) || place != nowhere && (!ok || k != place) {
		t.Errorf("Find(%#v, %q): %d, %v, not %d", l, name, k, ok, place)
	}
}

func lies(t *testing.T, a, b api.Joint, dx, dy, l2 int64) {
	t.Helper()
	if x, y, z := joints.Apart(a, b); x != dx || y != dy || z != l2 {
		t.Errorf("Apart(%#v, %#v): %d, %d, %d, not %d, %d, %d", a, b, x, y, z, dx, dy, l2)
	}
}

func same(a, b float64) bool { return math.Float64bits(a) == math.Float64bits(b) }

func sameSpan(a, b api.Span) bool { return same(a.Lo, b.Lo) && same(a.Hi, b.Hi) }

func reaches(t *testing.T, a, b api.Joint, lo, hi, near float64) {
	t.Helper()
	s, x := joints.Length(a, b)
	if !sameSpan(s, api.Span{Lo: lo, Hi: hi}) || !same(x, near) {
		t.Errorf("Length(%#v, %#v): %v, %v, not [%v, %v], %v", a, b, s, x, lo, hi, near)
	}
}

// byWords is what Check must tell, told joint by joint against all ahead, and names byte by byte.
func byWords(l []api.Joint) (api.Errno, int) {
	if len(l) > 16 {
		return api.ErrLong, 0
	}
	for i, j := range l {
		bad := j.Name == "" || len(j.Name) > 8 || j.Fix > 7
		for k, c := range []byte(j.Name) {
			small := strings.IndexByte("abcdefghijklmnopqrstuvwxyz", c) >= 0
			digit := strings.IndexByte("0123456789", c) >= 0
			bad = bad || !small && !digit || k == 0 && digit
		}
		for _, c := range []int32{j.X, j.Y} {
			bad = bad || math.Abs(float64(c)) > 1048576
		}
		for _, ahead := range l[:i] {
			bad = bad || ahead.Name == j.Name || ahead.X == j.X && ahead.Y == j.Y
		}
		if bad {
			return api.ErrJoint, i
		}
	}
	return api.OK, 0
}

// anyJoint is one that may be, as a rule, and often is like another one.
func anyJoint(r *rand.Rand) api.Joint {
	names := []string{"a", "b", "c", "ab", "a1", "a10", "abcdefgh", "z9", "q", "r", "s", "t", "u"}
	faulty := []string{"", "A", "1", "a_", "abcdefghi", "\xff", "é", "a\x00", "a "}
	j := api.Joint{Name: names[r.Intn(len(names))], X: int32(r.Intn(7)) - 3, Y: int32(r.Intn(7)) - 3, Fix: uint8(r.Intn(8))}
	switch r.Intn(40) {
	case 0:
		j.Name = faulty[r.Intn(len(faulty))]
	case 1:
		j.X = edge + int32(r.Intn(3)) - 1
	case 2:
		j.Y = -edge + int32(r.Intn(3)) - 1
	case 3:
		j.Fix = uint8(r.Intn(256))
	}
	return j
}

func anyList(r *rand.Rand, n int) []api.Joint {
	l := make([]api.Joint, n)
	for i := range l {
		l[i] = anyJoint(r)
	}
	return l
}

// rightList is a list that may be.
func rightList(r *rand.Rand) []api.Joint {
	l := []api.Joint{}
	for range r.Intn(30) {
		longer := append(slices.Clone(l), anyJoint(r))
		if e, _ := byWords(longer); e == api.OK {
			l = longer
		}
	}
	return l
}

// anyCoordinate is one that may be, now a little one, now one at an edge.
func anyCoordinate(r *rand.Rand) int32 {
	switch r.Intn(4) {
	case 0:
		return int32(r.Intn(9)) - 4
	case 1:
		return edge - int32(r.Intn(3))
	case 2:
		return int32(r.Intn(3)) - edge
	}
	return int32(r.Intn(2<<20+1)) - edge
}

func anyPoint(r *rand.Rand) api.Joint { return at(anyCoordinate(r), anyCoordinate(r)) }

// The chapter's examples.
func TestExamples(t *testing.T) {
	lies(t, at(1, 1), at(4, 5), 3, 4, 25)
	reaches(t, at(1, 1), at(4, 5), 5, 5, 5)
	lies(t, at(4, 5), at(1, 1), -3, -4, 25)
	root := math.Ldexp(6369051672525772, -52)
	above := math.Ldexp(6369051672525773, -52)
	reaches(t, api.Joint{}, api.Joint{X: 1, Y: 1}, root, above, above)
	reaches(t, at(7, -7), at(7, -7), 0, 0, 0)
	lies(t, api.Joint{X: 1<<20 + 1}, api.Joint{}, 0, 0, 0)

	two := []api.Joint{{Name: "a"}, {Name: "b1", X: 1}}
	checks(t, two, api.OK, 0)
	for _, name := range []string{"", "A", "1a", "abcdefghi", "a_"} {
		checks(t, named(name), api.ErrJoint, 0)
	}
	checks(t, []api.Joint{{Name: "a", X: 1<<20 + 1}}, api.ErrJoint, 0)
	checks(t, []api.Joint{{Name: "a", Fix: 8}}, api.ErrJoint, 0)
	checks(t, []api.Joint{{Name: "a"}, {Name: "a", X: 1}}, api.ErrJoint, 1)
	checks(t, []api.Joint{{Name: "a"}, {Name: "b"}}, api.ErrJoint, 1)
	checks(t, row(17), api.ErrLong, 0)

	finds(t, two, "b1", 1)
	finds(t, two, "c", nowhere)
}

// P18.1: how many joints there may be; that there are too many counts ahead of what each of them is.
func TestHowMany(t *testing.T) {
	for n := range 17 {
		checks(t, row(n), api.OK, 0)
	}
	checks(t, nil, api.OK, 0)
	for _, n := range []int{17, 18, 200} {
		checks(t, row(n), api.ErrLong, 0)
		checks(t, make([]api.Joint, n), api.ErrLong, 0)
		checks(t, changed(n, func(l []api.Joint) { l[3].Fix = 8 }), api.ErrLong, 0)
	}
	checks(t, changed(16, func(l []api.Joint) { l[15].Fix = 8 }), api.ErrJoint, 15)
	checks(t, make([]api.Joint, 16), api.ErrJoint, 0)
}

// P18.1: which texts are names, of all lengths, with each byte that there is at each place.
func TestNames(t *testing.T) {
	whole := "abcdefgh"
	for n := range 12 {
		for _, sample := range []string{"abcdefghijkl", "z0z9z0z9z0z9", "a00000000000"} {
			want := api.ErrJoint
			if 1 <= n && n <= 8 {
				want = api.OK
			}
			checks(t, named(sample[:n]), want, 0)
		}
	}
	for b := range 256 {
		small, digit := 'a' <= b && b <= 'z', '0' <= b && b <= '9'
		for place := range whole {
			want := api.ErrJoint
			if small || digit && place > 0 {
				want = api.OK
			}
			checks(t, named(whole[:place]+string([]byte{byte(b)})+whole[place+1:]), want, 0)
			checks(t, named(whole[:place]+string([]byte{byte(b)})), want, 0)
		}
	}
}

// P18.1: letters and digits beyond a to z and 0 to 9, pieces of letters, and what looks like one when it is cut to a byte, make no name.
func TestOtherLetters(t *testing.T) {
	for _, text := range []string{
		"é", "aé", "aéb", "ß", "š", "aš", "\u0430", "a\u0663", "a１", "ａ", "\u0161", "a\u0131", "\U0001F600", "aa\U0001F600",
		"\ufffd", "a\ufffd", "\xc3", "a\xc3", "\xa9a", "a\xff", "\xffa", "\xed\xa0\x80", "a\xf4\x90\x80\x80", "\xe1\xe1", "a\x80\x80",
		"ééééé", "aéééé", "aaaaaaé", "aaaaaaaé", "éaaaaaaa",
		" a", "a ", "a b", "a\n", "\ta", "a\x00", "\x00", "-a", "a-b", "a.b", "a_b", "+", "`", "{", "a`", "a{", "a/", "a:", "@a", "[a", "aB", "Ab", "aZ", "ABC",
		strings.Repeat("a", 9), strings.Repeat("a", 1<<16), strings.Repeat("\xff", 1<<16),
	} {
		checks(t, named(text), api.ErrJoint, 0)
		checks(t, named("b", text, "c"), api.ErrJoint, 1)
	}
}

// P18.1: X and Y up to 2^20, both ways, each by itself.
func TestCoordinates(t *testing.T) {
	for _, c := range []int32{0, 1, -1, edge - 1, edge, 1 - edge, -edge} {
		checks(t, []api.Joint{at(c, 0)}, api.OK, 0)
		checks(t, []api.Joint{at(0, c)}, api.OK, 0)
		checks(t, []api.Joint{at(c, -c)}, api.OK, 0)
	}
	for _, c := range []int32{edge + 1, -edge - 1, edge + 2, 1 << 30, -1 << 30, math.MaxInt32, math.MinInt32, math.MinInt32 + 1} {
		checks(t, []api.Joint{at(c, 0)}, api.ErrJoint, 0)
		checks(t, []api.Joint{at(0, c)}, api.ErrJoint, 0)
		checks(t, []api.Joint{at(c, c)}, api.ErrJoint, 0)
		checks(t, changed(9, func(l []api.Joint) { l[8].Y = c }), api.ErrJoint, 8)
	}
}

// P18.1: what is held: 0 to 7.
func TestFix(t *testing.T) {
	for fix := range 256 {
		want := api.ErrJoint
		if fix <= 7 {
			want = api.OK
		}
		checks(t, []api.Joint{{Name: "a", Fix: uint8(fix)}}, want, 0)
	}
}

// P18.1: a Name, or a point, that one ahead has; like Fix, X alone, Y alone, X for Y are no fault.
func TestTwice(t *testing.T) {
	for i := range 16 {
		for k := range i {
			checks(t, changed(16, func(l []api.Joint) { l[i].Name = l[k].Name }), api.ErrJoint, i)
			checks(t, changed(16, func(l []api.Joint) { l[i].X, l[i].Y = l[k].X, l[k].Y }), api.ErrJoint, i)
			checks(t, changed(16, func(l []api.Joint) { l[i].X, l[i].Y = l[k].X, 99 }), api.OK, 0)
			checks(t, changed(16, func(l []api.Joint) { l[i].X, l[i].Y = 99, l[k].Y }), api.OK, 0)
			checks(t, changed(16, func(l []api.Joint) { l[i].Fix = l[k].Fix }), api.OK, 0)
		}
	}
	checks(t, []api.Joint{{Name: "a", X: 1, Y: 2}, {Name: "b", X: 2, Y: 1}, {Name: "c", X: -1, Y: 2}, {Name: "d", X: 1, Y: -2}}, api.OK, 0)
	checks(t, []api.Joint{{Name: "a", X: -edge, Y: edge}, {Name: "b", X: edge, Y: -edge}, {Name: "c", X: edge, Y: edge}, {Name: "d", X: -edge, Y: -edge}}, api.OK, 0)
	checks(t, []api.Joint{{Name: "a"}, {Name: "a"}}, api.ErrJoint, 1)
	checks(t, named("a", "b", "c", "a"), api.ErrJoint, 3)
}

// P18.1: names of which one is the beginning, or the end, of another.
func TestBeginnings(t *testing.T) {
	names := []string{"a", "ab", "abc", "abcd", "abcdefgh", "b", "bc", "a0", "a00", "a01", "aa", "aaa", "h"}
	checks(t, named(names...), api.OK, 0)
	slices.Reverse(names)
	checks(t, named(names...), api.OK, 0)
	for i, name := range names {
		finds(t, named(names...), name, i)
		finds(t, named(names...), name+"x", nowhere)
	}
	checks(t, named("abcdefgh", "abcdefgi"), api.OK, 0)
	checks(t, named("abcdefgh", "abcdefgh"), api.ErrJoint, 1)
}

// P18.1, R2: of several faults the first joint's counts, of whichever kind.
func TestFirstFault(t *testing.T) {
	faults := []func(l []api.Joint, i int){
		func(l []api.Joint, i int) { l[i].Name = "" },
		func(l []api.Joint, i int) { l[i].Name = "Q" },
		func(l []api.Joint, i int) { l[i].X = edge + 1 },
		func(l []api.Joint, i int) { l[i].Y = -edge - 1 },
		func(l []api.Joint, i int) { l[i].Fix = 8 },
		func(l []api.Joint, i int) { l[i].Name = l[0].Name },
		func(l []api.Joint, i int) { l[i].X, l[i].Y = l[0].X, l[0].Y },
	}
	for _, one := range faults {
		for _, other := range faults {
			for first := 1; first < 6; first++ {
				for second := first; second < 7; second++ {
					checks(t, changed(7, func(l []api.Joint) {
						other(l, second)
						one(l, first)
					}), api.ErrJoint, first)
				}
			}
		}
	}
	// The joint whose name is taken stands behind the one whose point is, and the other way round.
	checks(t, []api.Joint{{Name: "a"}, {Name: "b", X: 1}, {Name: "c", X: 1}, {Name: "a", X: 2}}, api.ErrJoint, 2)
	checks(t, []api.Joint{{Name: "a"}, {Name: "b", X: 1}, {Name: "a", X: 2}, {Name: "c", X: 1}}, api.ErrJoint, 2)
	// A joint that may not be is told, though what it has stands again behind it.
	checks(t, []api.Joint{{Name: "a", Fix: 8}, {Name: "a"}}, api.ErrJoint, 0)
}

// P18.1: many lists, against the chapter's words.
func TestCheckByWords(t *testing.T) {
	r := rand.New(rand.NewSource(18))
	told := map[api.Errno]int{}
	for range 100000 {
		l := anyList(r, r.Intn(19))
		e, k := byWords(l)
		told[e]++
		checks(t, l, e, k)
	}
	if told[api.OK] < 1000 || told[api.ErrLong] < 1000 || told[api.ErrJoint] < 1000 {
		t.Error(told)
	}
}

// P18.2: the first joint of that Name, of any list, any text.
func TestFind(t *testing.T) {
	finds(t, nil, "", nowhere)
	finds(t, nil, "a", nowhere)
	finds(t, []api.Joint{}, "a", nowhere)
	finds(t, []api.Joint{{}}, "", 0)
	finds(t, []api.Joint{{}}, "a", nowhere)
	twice := []api.Joint{{Name: "a"}, {Name: "b", X: 1}, {Name: "b", X: 2}, {Name: "a", X: 3}}
	finds(t, twice, "a", 0)
	finds(t, twice, "b", 1)
	finds(t, twice, "", nowhere)
	wrong := []api.Joint{{Name: "B", Fix: 255}, {Name: "b", X: math.MinInt32}, {Name: "\xff"}, {Name: "\ufffd"}, {Name: "é"}, {Name: "e\u0301"}, {Name: strings.Repeat("a", 70000)}, {Name: "a\x00"}, {Name: ""}, {Name: "1"}, {Name: "b"}}
	for i, j := range wrong[:10] {
		finds(t, wrong, j.Name, i)
	}
	finds(t, wrong, "b", 1)
	finds(t, wrong, "\xfe", nowhere)
	finds(t, wrong, "a", nowhere)
	finds(t, wrong, strings.Repeat("a", 69999), nowhere)
	finds(t, wrong, " ", nowhere)

	long := make([]api.Joint, 5000)
	for i := range long {
		long[i].Name = strings.Repeat("x", i%1000)
	}
	finds(t, long, "", 0)
	finds(t, long, "xxxxxxxxxxxxxxxxx", 17)
	finds(t, long, strings.Repeat("x", 999), 999)
	finds(t, long, strings.Repeat("x", 1000), nowhere)
}

// P18.3: three noughts of X or Y of a size above 2^20, at either joint; no size wraps.
func TestTooFar(t *testing.T) {
	for _, c := range []int32{edge + 1, -edge - 1, math.MaxInt32, math.MinInt32, math.MinInt32 + 1} {
		for _, far := range []api.Joint{at(c, 0), at(0, c), at(c, c), at(c, -edge), at(edge, c)} {
			for _, other := range []api.Joint{at(0, 0), at(3, 4), at(-edge, edge), far} {
				lies(t, far, other, 0, 0, 0)
				lies(t, other, far, 0, 0, 0)
				reaches(t, far, other, 0, 0, 0)
				reaches(t, other, far, 0, 0, 0)
			}
		}
	}
}

// P18.3: the differences, up to the greatest ones.
func TestApart(t *testing.T) {
	lies(t, at(-edge, -edge), at(edge, edge), 1<<21, 1<<21, 1<<43)
	lies(t, at(edge, edge), at(-edge, -edge), -1<<21, -1<<21, 1<<43)
	lies(t, at(edge, -edge), at(-edge, edge), -1<<21, 1<<21, 1<<43)
	lies(t, at(edge, 0), at(-edge, 0), -1<<21, 0, 1<<42)
	lies(t, at(0, -edge), at(0, edge), 0, 1<<21, 1<<42)
	lies(t, at(0, 0), at(0, 0), 0, 0, 0)
	lies(t, at(-edge, edge), at(-edge, edge), 0, 0, 0)
	r := rand.New(rand.NewSource(1))
	for range 20000 {
		a, b := anyPoint(r), anyPoint(r)
		dx, dy := int64(b.X)-int64(a.X), int64(b.Y)-int64(a.Y)
		lies(t, a, b, dx, dy, dx*dx+dy*dy)
	}
}

// P18.3: lengths that are whole, in all directions, and the greatest length.
func TestWholeLengths(t *testing.T) {
	for _, x := range [][3]int32{{0, 1, 1}, {3, 4, 5}, {5, 12, 13}, {8, 15, 17}, {20, 21, 29}, {0, edge, edge}, {696, 697, 985}, {803760, 803761, 1136689}, {629145, 838860, 1048575}} {
		for _, d := range [][2]int32{{x[0], x[1]}, {x[1], x[0]}, {-x[0], x[1]}, {-x[1], -x[0]}} {
			n := float64(x[2])
			reaches(t, at(0, 0), at(d[0], d[1]), n, n, n)
			reaches(t, at(d[0], d[1]), at(0, 0), n, n, n)
		}
	}
	reaches(t, at(-edge, 5), at(edge, 5), 1<<21, 1<<21, 1<<21)
	lo, hi := math.Ldexp(6369051672525772, -31), math.Ldexp(6369051672525773, -31)
	reaches(t, at(-edge, -edge), at(edge, edge), lo, hi, hi)
	reaches(t, at(edge, -edge), at(-edge, edge), lo, hi, hi)
}

// isRoot fails unless s, near are the chapter's of the root of l2, held against it exactly.
func isRoot(t *testing.T, s api.Span, near float64, l2 int64) {
	t.Helper()
	against := func(x *big.Rat) int { return new(big.Rat).Mul(x, x).Cmp(new(big.Rat).SetInt64(l2)) }
	rat := func(x float64) *big.Rat { return new(big.Rat).SetFloat64(x) }
	lo, hi := against(rat(s.Lo)), against(rat(s.Hi))
	if lo > 0 || hi < 0 {
		t.Fatal("the root does not lie in", s, l2)
	}
	if lo == 0 || hi == 0 {
		if !same(s.Lo, s.Hi) || !same(near, s.Lo) {
			t.Fatal("no whole root:", s, near, l2)
		}
		return
	}
	if bits.Next(s.Lo, true) != s.Hi {
		t.Fatal("not next to each other:", s, l2)
	}
	middle := new(big.Rat).Add(rat(s.Lo), rat(s.Hi))
	want := s.Lo
	if against(middle.Quo(middle, big.NewRat(2, 1))) < 0 { // no root lies in the middle: its square would have more bits than l2
		want = s.Hi
	}
	if near != want {
		t.Fatal("not the nearest:", s, near, l2)
	}
}

// P18.3, P18.4: the root lies in the span, whose ends are the same or next to each other, and the float is the nearer one.
func TestLength(t *testing.T) {
	either := map[bool]int{}
	seen := func(a, b api.Joint) {
		_, _, l2 := joints.Apart(a, b)
		s, near := joints.Length(a, b)
		isRoot(t, s, near, l2)
		square := float64(l2)
		reaches(t, a, b, round.Sqrt(square, api.Down), round.Sqrt(square, api.Up), round.Sqrt(square, api.Nearest))
		either[near == s.Lo]++
	}
	for x := range int32(60) {
		for y := range int32(60) {
			seen(at(0, 0), at(x, y))
			seen(at(-edge, edge), at(edge-x, y-edge))
		}
	}
	r := rand.New(rand.NewSource(2))
	for range 5000 {
		seen(anyPoint(r), anyPoint(r))
	}
	if either[true] < 1000 || either[false] < 1000 {
		t.Error(either)
	}
}

// P18.3: nothing but X and Y plays a part.
func TestNothingElsePlaysAPart(t *testing.T) {
	for _, name := range []string{"", "A", "a", "abcdefghi", "\xff", "1", strings.Repeat("z", 70000)} {
		for _, fix := range []uint8{0, 7, 8, 255} {
			odd := api.Joint{Name: name, X: 3, Y: 4, Fix: fix}
			lies(t, at(0, 0), odd, 3, 4, 25)
			lies(t, odd, at(0, 0), -3, -4, 25)
			lies(t, odd, odd, 0, 0, 0)
			reaches(t, at(0, 0), odd, 5, 5, 5)
			reaches(t, odd, at(0, 0), 5, 5, 5)
			reaches(t, odd, odd, 0, 0, 0)
			lies(t, odd, at(0, edge+1), 0, 0, 0)
		}
	}
}

// P18.4: changed about, moved alike, mirrored, turned by a quarter: as before, but for the signs of dx and dy.
func TestTurnedAndMoved(t *testing.T) {
	r := rand.New(rand.NewSource(3))
	for range 3000 {
		a, b := anyPoint(r), anyPoint(r)
		dx, dy, l2 := joints.Apart(a, b)
		s, near := joints.Length(a, b)
		alike := func(p, q api.Joint, x, y int64) {
			lies(t, p, q, x, y, l2)
			reaches(t, p, q, s.Lo, s.Hi, near)
		}
		alike(b, a, -dx, -dy)
		mirror := func(j api.Joint) api.Joint { return at(-j.X, j.Y) }
		alike(mirror(a), mirror(b), -dx, dy)
		over := func(j api.Joint) api.Joint { return at(j.X, -j.Y) }
		alike(over(a), over(b), dx, -dy)
		turn := func(j api.Joint) api.Joint { return at(-j.Y, j.X) }
		alike(turn(a), turn(b), -dy, dx)
		alike(turn(turn(a)), turn(turn(b)), -dx, -dy)
		slant := func(j api.Joint) api.Joint { return at(j.Y, j.X) }
		alike(slant(a), slant(b), dy, dx)
		// As far as both may go either way.
		for _, by := range [][2]int32{{edge - max(a.X, b.X), edge - max(a.Y, b.Y)}, {-edge - min(a.X, b.X), -edge - min(a.Y, b.Y)}, {edge - max(a.X, b.X), 0}} {
			alike(at(a.X+by[0], a.Y+by[1]), at(b.X+by[0], b.Y+by[1]), dx, dy)
		}
		reaches(t, a, a, 0, 0, 0)
	}
}

// longWay fails unless the way over b is not shorter than that from a to c.
func longWay(t *testing.T, a, b, c api.Joint) {
	t.Helper()
	whole, _ := joints.Length(a, c)
	one, _ := joints.Length(a, b)
	other, _ := joints.Length(b, c)
	if whole.Lo > round.Add(one.Hi, other.Hi, api.Up) {
		t.Error(a, b, c, whole, one, other)
	}
}

// P18.4: two lengths together are not below the third one; three joints in one line are the hardest.
func TestTwoLengthsAndTheThird(t *testing.T) {
	r := rand.New(rand.NewSource(4))
	for range 5000 {
		a, b, c := anyPoint(r), anyPoint(r), anyPoint(r)
		longWay(t, a, b, c)
		longWay(t, b, c, a)
		longWay(t, c, a, b)
		x, y := int32(r.Intn(1000))-500, int32(r.Intn(1000))-500
		m, n := int32(r.Intn(1000)), int32(r.Intn(1000))
		longWay(t, at(0, 0), at(m*x, m*y), at((m+n)*x, (m+n)*y))
		longWay(t, at(-m*x, -m*y), at(0, 0), at(n*x, n*y))
	}
	longWay(t, at(-edge, -edge), at(0, 0), at(edge, edge))
	longWay(t, at(-edge, -edge), at(edge, edge), at(-edge, -edge))
	longWay(t, at(1, 1), at(1, 1), at(1, 1))
}

// P18.4: of a list that may be each joint is found by its name; without some of its joints, and the other way round, it may be.
func TestListsThatMayBe(t *testing.T) {
	r := rand.New(rand.NewSource(5))
	for range 3000 {
		l := rightList(r)
		checks(t, l, api.OK, 0)
		for i, j := range l {
			finds(t, l, j.Name, i)
		}
		some := slices.DeleteFunc(slices.Clone(l), func(api.Joint) bool { return r.Intn(3) == 0 })
		checks(t, some, api.OK, 0)
		for i, j := range some {
			finds(t, some, j.Name, i)
		}
		slices.Reverse(l)
		checks(t, l, api.OK, 0)
		for i, j := range l {
			finds(t, l, j.Name, i)
		}
	}
}

// R3: lists are left as they were, their spare room too, and what stands there plays no part.
func TestListsAreLeft(t *testing.T) {
	r := rand.New(rand.NewSource(6))
	for range 1000 {
		all := anyList(r, 24)
		was := slices.Clone(all)
		n := r.Intn(19)
		e, k := byWords(was[:n:n])
		checks(t, all[:n], e, k)
		place := slices.IndexFunc(was[:n:n], func(j api.Joint) bool { return j.Name == "a" })
		finds(t, all[:n], "a", place)
		if !slices.Equal(all, was) {
			t.Fatal("changed:", all, was)
		}
	}
	checks(t, row(26)[:16], api.OK, 0)
	finds(t, row(26)[:16], "jz", nowhere)
}

// R3, R4: lists that share memory are told each by itself, and nothing is kept from call to call.
func TestListsThatShare(t *testing.T) {
	all := append(row(12), row(12)...)
	was := slices.Clone(all)
	checks(t, all[:12], api.OK, 0)
	checks(t, all[12:], api.OK, 0)
	checks(t, all[6:18], api.OK, 0)
	checks(t, all[1:14], api.ErrJoint, 12)
	checks(t, all[:12], api.OK, 0)
	finds(t, all[6:18], "ja", 6)
	finds(t, all[:6], "jg", nowhere)
	finds(t, all, "jg", 6)
	l := all[:12]
	l[3].Name, l[4].Name = l[4].Name, l[3].Name
	checks(t, l, api.OK, 0)
	finds(t, l, "je", 3)
	l[3], l[4] = was[3], was[4]
	finds(t, l, "je", 4)
	if !slices.Equal(all, was) {
		t.Error("changed:", all, was)
	}
}
