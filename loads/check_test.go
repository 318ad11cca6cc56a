package loads_test

import (
	"math"
	"math/rand"
	"slices"
	"strings"
	"testing"

	"girder/api"
	"girder/bars"
	"girder/loads"
)

// The chapter's example 4.
func TestExampleOfRefusal(t *testing.T) {
	p := chapter()
	w := force("w", 1, 1, -2, 3)
	refused(t, p, []api.Load{w}, once("q"), api.ErrCase)
	refused(t, p, []api.Load{w}, combo(part("w", 1), part("w", 1)), api.ErrCase)
	refused(t, p, []api.Load{w}, combo(part("w", math.NaN())), api.ErrArg)
	refused(t, p, []api.Load{w}, combo(part("w", mostFactor+1)), api.ErrArg)
	refused(t, p, []api.Load{w}, combo(make([]api.Part, 17)...), api.ErrArg)
	pushed := uniform("s", 0, 1)
	pushed.X = 1
	for _, bad := range []api.Load{force("w", 3, 0, 0, 0), force("w", 1, infinity, 0, 0), {Case: "w", Kind: 3}, force("A", 0, 0, 0, 0), pushed} {
		looked(t, p, []api.Load{bad}, api.ErrLoad, 0)
		looked(t, p, []api.Load{w, w, bad, w, bad}, api.ErrLoad, 2)
	}
	barred := made(p.Joints, bar(0, 1), bar(1, 2))
	looked(t, barred, []api.Load{force("w", 1, 0, 0, 1)}, api.ErrLoad, 0)
	looked(t, barred, []api.Load{force("w", 0, 0, 0, 1), force("w", 2, 0, 0, 1)}, api.ErrLoad, 1)
	cases(t, []api.Load{w, uniform("s", 0, 3), w}, "w", "s")
}

// P23.1: no load, as many as may be, and more: that counts ahead of what each of them is.
func TestHowMany(t *testing.T) {
	good, bad := force("w", 1, 1, -2, 3), api.Load{}
	for _, p := range []api.Plan{chapter(), made(nil), made([]api.Joint{joint(0, 0, 0)})} {
		looked(t, p, nil, api.OK, 0)
		looked(t, p, []api.Load{}, api.OK, 0)
		looked(t, p, slices.Repeat([]api.Load{bad}, 257), api.ErrLong, 0)
	}
	p := chapter()
	for _, n := range []int{1, 2, 16, 255, 256} {
		looked(t, p, slices.Repeat([]api.Load{good}, n), api.OK, 0)
		looked(t, p, append(slices.Repeat([]api.Load{good}, n-1), bad), api.ErrLoad, n-1)
	}
	for _, n := range []int{257, 258, 5000} {
		looked(t, p, slices.Repeat([]api.Load{good}, n), api.ErrLong, 0)
		looked(t, p, append([]api.Load{good, bad}, slices.Repeat([]api.Load{good}, n-2)...), api.ErrLong, 0)
	}
}

// mayName is chapter 20's words of a NAME.
func mayName(text string) bool {
	const small, digits = "abcdefghijklmnopqrstuvwxyz", "0123456789"
	for i := range len(text) {
		if !strings.Contains(small, text[i:i+1]) && (i == 0 || !strings.Contains(digits, text[i:i+1])) {
			return false
		}
	}
	return 1 <= len(text) && len(text) <= 8
}

// P23.1: a Case that is a NAME, and each way in which it is none; of both kinds.
func TestCaseIsName(t *testing.T) {
	names := []string{"", "a", "z", "a0", "z9", "w", "abcdefgh", "a1234567", "abcdefghi", "a12345678", "1a", "0", "A", "aB", "a_", "a-", "-a", "a b", " a", "a ", "a\n", "a\x00", "\x00", "é", "aé", "a\xff", "\xff", "a.", "#", "ａ", "a٣", strings.Repeat("a", 1<<16)}
	for b := range 256 {
		names = append(names, string([]byte{byte(b)}), string([]byte{'a', byte(b)}), string([]byte{'a', '2', byte(b), 'd'}), "abcdefg"+string([]byte{byte(b)}))
	}
	p := chapter()
	met := map[bool]int{}
	for _, c := range names {
		met[mayName(c)]++
		for _, l := range [][]api.Load{{force(c, 1, 1, 1, 1)}, {uniform(c, 1, 1)}} {
			if mayName(c) {
				looked(t, p, l, api.OK, 0)
				checked(t, p, l, once(c))
			} else {
				looked(t, p, l, api.ErrLoad, 0)
				refused(t, p, l, once(c), api.ErrLoad)
			}
		}
	}
	if met[true] < 100 || met[false] < 100 {
		t.Error(met)
	}
}

// P23.1: of all kinds two are one.
func TestKind(t *testing.T) {
	p := chapter()
	for kind := range 256 {
		l := []api.Load{force("w", 0, 0, 1, 0), {Case: "w", Kind: api.LoadKind(kind), At: 1, Y: 1}}
		if kind == 1 || kind == 2 {
			looked(t, p, l, api.OK, 0)
		} else {
			looked(t, p, l, api.ErrLoad, 1)
		}
	}
}

// P23.1: At is the place of a joint, or that of a member, by the load's Kind.
func TestAt(t *testing.T) {
	three := []api.Joint{joint(0, 0, fixAll), joint(8, 0, 0), joint(8, 6, 0)}
	for _, p := range []api.Plan{
		made(nil),
		made(three),
		made(three[:1]),
		made(three, bar(0, 1)),
		chapter(),
		made(three, bar(0, 1), bar(1, 2), bar(2, 0), bar(0, 2), bar(2, 1)),
	} {
		for _, at := range []int{math.MinInt, math.MinInt32, -2, -1, 0, 1, 2, 3, 4, 5, 6, 16, 48, 255, 256, 1 << 32, math.MaxInt} {
			for _, x := range []struct {
				l    api.Load
				many int
			}{{force("w", at, 1, 1, 0), len(p.Joints)}, {uniform("w", at, 1), len(p.Members)}} {
				if at >= 0 && at < x.many {
					looked(t, p, []api.Load{x.l}, api.OK, 0)
					checked(t, p, []api.Load{x.l}, once("w"))
				} else {
					looked(t, p, []api.Load{x.l}, api.ErrLoad, 0)
				}
			}
		}
	}
}

// P23.1: X, Y, Turn up to 2^60 either way, each by itself; no further, and nothing that is no number.
func TestSizes(t *testing.T) {
	p := chapter()
	set := []func(l *api.Load, x float32){
		func(l *api.Load, x float32) { l.X = x },
		func(l *api.Load, x float32) { l.Y = x },
		func(l *api.Load, x float32) { l.Turn = x },
	}
	good := []float32{0, minusNought, tiny, -tiny, 1, -0.1, 0x1p-126, math.Nextafter32(mostLoad, 0), mostLoad, -mostLoad}
	bad := []float32{noNumber, -noNumber, math.Float32frombits(0x7F800001), math.Float32frombits(0xFFFFFFFF), infinity, -infinity, tooGreat, -tooGreat, 0x1p61, math.MaxFloat32, -math.MaxFloat32}
	for k, to := range set {
		for _, x := range good {
			l := force("w", 1, 5, 6, 7)
			to(&l, x)
			looked(t, p, []api.Load{l}, api.OK, 0)
			checked(t, p, []api.Load{l}, once("w"))
			l = uniform("w", 0, 6)
			to(&l, x)
			if k == 1 || x == 0 {
				looked(t, p, []api.Load{l}, api.OK, 0)
				checked(t, p, []api.Load{l}, once("w"))
			} else {
				looked(t, p, []api.Load{l}, api.ErrLoad, 0)
			}
		}
		for _, x := range bad {
			for _, l := range []api.Load{force("w", 1, 5, 6, 7), force("w", 1, 0, 0, 0), uniform("w", 0, 6), uniform("w", 0, 0)} {
				to(&l, x)
				looked(t, p, []api.Load{l}, api.ErrLoad, 0)
			}
		}
	}
}

// P23.1: of a uniform load X and Turn are noughts, of either sign.
func TestUniformIsNothingElse(t *testing.T) {
	p := chapter()
	for _, x := range []float32{0, minusNought, tiny, -tiny, 1} {
		for _, turn := range []float32{0, minusNought, tiny, -tiny, 1} {
			l := uniform("w", 1, 2)
			l.X, l.Turn = x, turn
			if x == 0 && turn == 0 {
				looked(t, p, []api.Load{l}, api.OK, 0)
				checked(t, p, []api.Load{l}, once("w"))
			} else {
				looked(t, p, []api.Load{l}, api.ErrLoad, 0)
			}
		}
	}
}

// P23.1: a Turn at joints whose turn is an unknown, is held, is both, is neither.
func TestTurn(t *testing.T) {
	l := []api.Joint{joint(0, 0, 0), joint(4, 0, 0), joint(8, 1, 0), joint(9, 9, 0)}
	for _, x := range []struct {
		members []api.Member
		bears   [4]bool
	}{
		{nil, [4]bool{}},
		{[]api.Member{bar(0, 1), bar(1, 2), bar(2, 0)}, [4]bool{}},
		{[]api.Member{beam(0, 1, true, true), beam(1, 2, true, true)}, [4]bool{}},
		{[]api.Member{beam(0, 1, false, false)}, [4]bool{true, true}},
		{[]api.Member{beam(0, 1, true, false), bar(0, 2)}, [4]bool{false, true}},
		{[]api.Member{beam(0, 1, false, true)}, [4]bool{true, false}},
		{[]api.Member{beam(2, 1, false, true), bar(1, 0)}, [4]bool{false, false, true}},
		{[]api.Member{bar(1, 2), beam(0, 1, true, true), beam(0, 2, true, false), beam(0, 1, false, true)}, [4]bool{true, false, true}},
	} {
		for at := range l {
			for fix := range uint8(8) {
				p := made(l, x.members...)
				p.Joints[at].Fix = fix
				ok := x.bears[at] || fix >= api.FixTurn
				for _, turn := range []float32{1, -2.5, tiny, -tiny, mostLoad} {
					want := api.OK
					if !ok {
						want = api.ErrLoad
					}
					looked(t, p, []api.Load{force("w", at, 0, 0, turn)}, want, 0)
				}
				for _, turn := range []float32{0, minusNought} {
					looked(t, p, []api.Load{force("w", at, 3, 4, turn)}, api.OK, 0)
					checked(t, p, []api.Load{force("w", at, 3, 4, turn)}, once("w"))
				}
			}
		}
	}
	// Of one joint it counts nothing what another one bears.
	p := made(l, beam(0, 1, false, true))
	looked(t, p, []api.Load{force("w", 0, 0, 0, 1), force("w", 1, 0, 0, 1)}, api.ErrLoad, 1)
}

// P23.1: bars.Check's errors, each with its place; they come ahead of all that is said of loads.
func TestPlanComesFirst(t *testing.T) {
	spoil := func(change func(p *api.Plan)) api.Plan {
		p := chapter()
		change(&p)
		return p
	}
	for _, p := range []api.Plan{
		spoil(func(p *api.Plan) { p.Joints[0].Name = "A" }),
		spoil(func(p *api.Plan) { p.Joints[2].Name = "maa" }),
		spoil(func(p *api.Plan) { p.Joints[1].X = edge + 1 }),
		spoil(func(p *api.Plan) { p.Joints[2].Fix = 8 }),
		spoil(func(p *api.Plan) { p.Joints[2].Y = 0 }),
		spoil(func(p *api.Plan) { p.Joints = make([]api.Joint, 17) }),
		spoil(func(p *api.Plan) { p.Members[0].Kind = 3 }),
		spoil(func(p *api.Plan) { p.Members[1].Name = p.Members[0].Name }),
		spoil(func(p *api.Plan) { p.Members[1].E = math.NaN() }),
		spoil(func(p *api.Plan) { p.Members[1].B = 3 }),
		spoil(func(p *api.Plan) { p.Members[1].A = -1 }),
		spoil(func(p *api.Plan) { p.Members = make([]api.Member, 49) }),
		spoil(func(p *api.Plan) { p.Joints = nil }),
		spoil(func(p *api.Plan) { p.Joints[1].Fix, p.Members[0].Area = 9, 0 }),
	} {
		want, place := bars.Check(p)
		if want == api.OK {
			t.Fatal(p)
		}
		for _, l := range [][]api.Load{nil, {force("w", 0, 1, 1, 1)}, {force("A", 7, noNumber, 0, 0)}, make([]api.Load, 257)} {
			looked(t, p, l, want, place)
		}
	}
}

// mayLoad is the chapter's words of a load upon p.
func mayLoad(t *testing.T, p api.Plan, l api.Load) bool {
	t.Helper()
	for _, x := range []float32{l.X, l.Y, l.Turn} {
		if !(x <= mostLoad && -x <= mostLoad) {
			return false
		}
	}
	switch l.Kind {
	case 1:
		return mayName(l.Case) && l.At >= 0 && l.At < len(p.Joints) && (l.Turn == 0 || bears(t, p, l.At))
	case 2:
		return mayName(l.Case) && l.At >= 0 && l.At < len(p.Members) && l.X == 0 && l.Turn == 0
	}
	return false
}

// spoilt is l with a fault, or without one, in one load.
func spoilt(r *rand.Rand, l []api.Load) []api.Load {
	l = slices.Clone(l)
	x := &l[r.Intn(len(l))]
	numbers := []float32{noNumber, infinity, -infinity, tooGreat, -tooGreat, mostLoad, 1, minusNought}
	switch r.Intn(6) {
	case 0:
		x.Case = []string{"", "A", "1", "abcdefghi", "abcdefgh", "w"}[r.Intn(6)]
	case 1:
		x.Kind = api.LoadKind(r.Intn(5))
	case 2:
		x.At = r.Intn(20) - 2
	case 3:
		x.X = numbers[r.Intn(8)]
	case 4:
		x.Y = numbers[r.Intn(8)]
	default:
		x.Turn = numbers[r.Intn(8)]
	}
	return l
}

// P23.1: many lists, with no fault or some, against the words: the least place counts.
func TestCheckByWords(t *testing.T) {
	r := rand.New(rand.NewSource(1))
	met := map[bool]int{}
	for range 1500 {
		p := anyPlan(r, 8, 9)
		l := anyLoads(t, r, p, 1+r.Intn(12), 3)
		for range r.Intn(4) {
			l = spoilt(r, l)
		}
		place := slices.IndexFunc(l, func(x api.Load) bool { return !mayLoad(t, p, x) })
		met[place < 0]++
		if place < 0 {
			looked(t, p, l, api.OK, 0)
		} else {
			looked(t, p, l, api.ErrLoad, place)
		}
	}
	if met[true] < 300 || met[false] < 300 {
		t.Error(met)
	}
}

// cases fails unless Cases tells these.
func cases(t *testing.T, l []api.Load, want ...string) {
	t.Helper()
	if got := loads.Cases(l); !slices.Equal(got, want) {
		t.Fatalf("Cases: %q, not %q", got, want)
	}
}

// P23.1: cases of lists with and without repeats, of loads that may not be, and of more than may be.
func TestCases(t *testing.T) {
	of := func(names ...string) []api.Load {
		var l []api.Load
		for i, c := range names {
			l = append(l, api.Load{Case: c, Kind: api.LoadKind(i), At: -i, X: noNumber, Y: float32(i), Turn: infinity})
		}
		return l
	}
	cases(t, nil)
	cases(t, []api.Load{})
	cases(t, of("w"), "w")
	cases(t, of("w", "w", "w"), "w")
	cases(t, of("w", "s", "w"), "w", "s")
	cases(t, of("b", "a", "c", "a", "b", "d"), "b", "a", "c", "d")
	cases(t, of("", "A", "", "abcdefghi", "a", "A", "\xff", "\xfe", "é", "\xff"), "", "A", "abcdefghi", "a", "\xff", "\xfe", "é")
	cases(t, make([]api.Load, 3), "")
	cases(t, []api.Load{force("w", 1, 1, 1, 1), uniform("w", 0, 1), force("v", 9, 0, 0, 0)}, "w", "v")
	// Far more than may be, in an order of their own.
	r := rand.New(rand.NewSource(2))
	var names []string
	for _, i := range r.Perm(600) {
		names = append(names, name(i))
	}
	all := of(names...)
	for range 3000 {
		all = append(all, of(names[r.Intn(600)])...)
	}
	cases(t, all, names...)
}

// P23.1: cases of any list are each load's, each once, in the order in which they first stand.
func TestCasesByWords(t *testing.T) {
	r := rand.New(rand.NewSource(3))
	for range 300 {
		var l []api.Load
		want := []string{}
		for range r.Intn(30) {
			c := []string{"", "w", "W", "s", "t", "u", "long enough to be none"}[r.Intn(7)]
			l = append(l, api.Load{Case: c})
			if !slices.Contains(want, c) {
				want = append(want, c)
			}
		}
		cases(t, l, want...)
	}
}
