package stiff_test

import (
	"math"
	"math/big"
	"math/rand"
	"slices"
	"testing"

	"girder/api"
	"girder/bits"
	"girder/dyad"
)

// The chapter's example 2.
func TestExampleOfRefusal(t *testing.T) {
	p := three(fixPoint, 0, bar(0, 1))
	inexact(t, p, ints(2), api.ErrArg)
	inexact(t, p, nil, api.ErrShape)
	p.Members[0].E = 0
	inexact(t, p, ints(1), api.ErrMember)
	inexact(t, p, nil, api.ErrMember)
}

// P22.3: too few dyads and too many, right or not, within S or not.
func TestShape(t *testing.T) {
	for _, x := range []struct {
		p    api.Plan
		many int
	}{
		{api.Plan{}, 0},
		{three(0, 0), 0},
		{three(0, 0, bar(0, 1)), 1},
		{three(fixAll, fixAll, bar(0, 1)), 1}, // no unknown, and a spring all the same
		{three(0, 0, hinged(0, 1, true, true)), 1},
		{three(0, 0, hinged(0, 1, true, false)), 2},
		{three(0, 0, beam(0, 1)), 3},
		{three(fixAll, fixAll, beam(0, 1), bar(0, 1)), 4},
		{full(rand.New(rand.NewSource(11))), 144},
	} {
		for n := range 150 {
			if n != x.many {
				inexact(t, x.p, slices.Repeat(ints(1), n), api.ErrShape)
				inexact(t, x.p, make([]api.Dyad, n), api.ErrShape)
				inexact(t, x.p, slices.Repeat([]api.Dyad{{Mag: []uint64{0}}}, n), api.ErrShape)
			}
		}
	}
}

// limbs is n limbs, all of them low but the last one, which is top.
func limbs(n int, low, top uint64) []uint64 {
	return append(slices.Repeat([]uint64{low}, n-1), top)
}

// wrong is dyads that are not right, each in a way of its own; some have the value 1.
func wrong() []api.Dyad {
	const ones = math.MaxUint64
	return []api.Dyad{
		{Neg: true},
		{Exp: 1},
		{Mag: []uint64{0}},
		{Mag: []uint64{2}, Exp: -1},
		{Mag: []uint64{1, 0}},
		{Mag: []uint64{0, 1}, Exp: -64},
		{Mag: []uint64{1 << 63}, Exp: -63},
		{Mag: []uint64{1, 0, 0}},
		{Mag: []uint64{1}, Exp: api.MaxExp + 1},
		{Mag: []uint64{1}, Exp: -api.MaxExp - 1},
		{Mag: []uint64{1}, Exp: math.MaxInt},
		{Mag: []uint64{1}, Exp: math.MinInt},
		{Mag: limbs(257, ones, ones), Exp: -257 * 64},
		{Mag: limbs(257, 1, 0)},
		{Mag: limbs(5000, 0, 1), Exp: -4999 * 64},
	}
}

// P22.3: dyads that are not right are refused, of the value 1 too; so are right ones that are no numbers of S, 0 and what is below it among them.
func TestWrongDyads(t *testing.T) {
	one := three(fixPoint, 0, bar(0, 1))
	still := three(fixAll, fixAll, bar(0, 1))
	many := three(0, 0, bar(0, 1), beam(0, 1))
	off := ints(0, -1, 2, -2, math.MaxInt64, math.MinInt64)
	off = append(off, api.Dyad{Mag: []uint64{1}, Exp: api.MaxExp}, api.Dyad{Neg: true, Mag: []uint64{1}, Exp: api.MaxExp}, api.Dyad{Mag: []uint64{1}, Exp: -api.MaxExp}, api.Dyad{Mag: limbs(256, math.MaxUint64, math.MaxUint64), Exp: api.MaxExp})
	for _, d := range append(wrong(), off...) {
		inexact(t, one, []api.Dyad{d}, api.ErrArg)
		inexact(t, still, []api.Dyad{d}, api.ErrArg)
		for k := range 4 {
			at := ints(1, 1, 3, 625)
			at[k] = d
			inexact(t, many, at, api.ErrArg)
		}
	}
	r := rand.New(rand.NewSource(14))
	great := full(r)
	for _, k := range []int{0, 71, 143} {
		at := anyExact(t, r, great, 53)
		at[k] = dyad.Int(0)
		inexact(t, great, at, api.ErrArg)
	}
	// Each dyad is held against its own spring.
	inexact(t, many, ints(1, 1, 625, 3), api.ErrArg)
	inexact(t, many, ints(1, 3, 1, 625), api.ErrArg)
	exact(t, many, ints(1, 1, 3, 625), 6, exactByWords(t, many, ints(1, 1, 3, 625))...)
}

// away is x and so many steps of 2 to the power exp.
func away(x float64, steps int64, exp int) *big.Int {
	step := new(big.Int).Lsh(big.NewInt(1), uint(deep+exp))
	return step.Add(valueOf(x), step.Mul(step, big.NewInt(steps)))
}

// P22.3: S's very ends and what lies just within them may be, what lies just outside may not; of each spring.
func TestEndsOfSpans(t *testing.T) {
	r := rand.New(rand.NewSource(12))
	l := []api.Joint{joint(0, 0, 0), joint(3, 1, 0), joint(-7, 2, fixPoint)}
	p := made(l, beam(0, 1), bar(1, 2), hinged(2, 0, true, false))
	springs, places := parts(t, p)
	for k, s := range springs {
		if s.S.Lo == s.S.Hi && s.Kind != api.SpringEnds {
			t.Fatal("one number:", s)
		}
		at := anyExact(t, r, p, 100)
		with := func(v *big.Int) []api.Dyad {
			at[k] = dyadOf(t, v)
			return at
		}
		for _, exp := range []int{-100, -1000, -16000} {
			for _, v := range []*big.Int{away(s.S.Lo, 0, exp), away(s.S.Lo, 1, exp), away(s.S.Hi, -1, exp), away(s.S.Hi, 0, exp)} {
				exact(t, p, with(v), places.N, exactByWords(t, p, with(v))...)
			}
			inexact(t, p, with(away(s.S.Lo, -1, exp)), api.ErrArg)
			inexact(t, p, with(away(s.S.Hi, 1, exp)), api.ErrArg)
		}
		inexact(t, p, with(valueOf(bits.Next(s.S.Lo, false))), api.ErrArg)
		inexact(t, p, with(valueOf(bits.Next(s.S.Hi, true))), api.ErrArg)
		inexact(t, p, with(new(big.Int).Neg(valueOf(s.S.Lo))), api.ErrArg)
	}
}

// tenth is a plan of so many bars from one to the other of the chapter's joints; of the second one what is told is held. Each bar's S lies about 10 / 125, between two floats next to each other.
func tenth(fix uint8, bars int) api.Plan {
	m := bar(0, 1)
	m.Area = 5
	return three(fixPoint, fix, slices.Repeat([]api.Member{m}, bars)...)
}

// about is a number of a tenth's S with so many bits, the last one set.
func about(t *testing.T, bits int) api.Dyad {
	t.Helper()
	springs, _ := parts(t, tenth(0, 1))
	v := away(springs[0].S.Lo, 1, -3-bits) // from 2^-4 on: its highest bit counts 2^-4
	d := dyadOf(t, v)
	if v.BitLen()-int(v.TrailingZeroBits()) != bits {
		t.Fatal(bits, d)
	}
	return d
}

// P22.3: an entry with as many bits as may be, and with one more, wherever it stands.
func TestTooLong(t *testing.T) {
	for _, x := range []struct {
		fix  uint8
		bits int
		want api.Errno
	}{
		{api.FixY, widest - 3, api.OK}, // nine times
		{api.FixY, widest - 2, api.ErrLong},
		{api.FixY, widest, api.ErrLong},
		{api.FixX, widest, api.OK}, // sixteen times
		{0, widest - 3, api.OK},
		{0, widest - 2, api.ErrLong}, // at x alone
		{0, widest, api.ErrLong},
		{fixPoint, widest, api.OK}, // nothing
	} {
		p := tenth(x.fix, 1)
		_, places := parts(t, p)
		at := []api.Dyad{about(t, x.bits)}
		if want := exactByWords(t, p, at); slices.ContainsFunc(want, tooLong) != (x.want == api.ErrLong) {
			t.Fatal(x)
		}
		exact(t, p, at, places.N, exactByWords(t, p, at)...)
	}
	// Of many entries the last one alone is too long: those of the spring that is stiff in x have few bits.
	l := []api.Joint{joint(0, 0, fixPoint), joint(5, 0, 0), joint(8, 4, api.FixY), joint(11, 8, fixPoint)}
	short, long := bar(0, 1), bar(2, 3)
	long.Area = 5
	p := made(l, short, long)
	exact(t, p, []api.Dyad{dyad.Int(1), about(t, widest-3)}, 3, exactByWords(t, p, []api.Dyad{dyad.Int(1), about(t, widest-3)})...)
	inexact(t, p, []api.Dyad{dyad.Int(1), about(t, widest-2)}, api.ErrLong)
}

// P22.3: sums of numbers that are far apart may be too long, though none of these is.
func TestTooLongSums(t *testing.T) {
	l := []api.Joint{joint(0, 0, fixPoint), joint(1, 0, api.FixY), joint(2, 0, api.FixY)}
	of := func(a, b int, size float64) api.Member {
		return api.Member{Kind: api.Bar, A: a, B: b, E: size / 3, Area: size / 3} // no float is as stiff as that
	}
	for _, p := range []api.Plan{
		made(l[:2], of(0, 1, 0x1p50), of(1, 0, 0x1p-50)),
		made(l, of(0, 1, 0x1p50), of(1, 2, 0x1p-50)),
		made(l, of(2, 1, 0x1p50), of(0, 1, 0x1p-50)),
	} {
		springs, places := parts(t, p)
		strong, weak := springs[0].S.Lo, springs[1].S.Lo
		top := math.Ilogb(strong)
		for _, x := range []struct {
			bits int
			want api.Errno
		}{{widest - 1, api.OK}, {widest, api.OK}, {widest + 1, api.ErrLong}, {widest + 100, api.ErrLong}} {
			at := []api.Dyad{dyadOf(t, valueOf(strong)), dyadOf(t, away(weak, 1, top+1-x.bits))}
			want := exactByWords(t, p, at)
			if slices.ContainsFunc(want, tooLong) != (x.want == api.ErrLong) {
				t.Fatal(x)
			}
			exact(t, p, at, places.N, want...)
		}
	}
}

// P22.3: what comes up on the way may be too long, while no entry is.
func TestLongOnTheWay(t *testing.T) {
	p := tenth(0, 2)
	springs, _ := parts(t, p)
	middle := new(big.Int).Add(valueOf(springs[0].S.Lo), valueOf(springs[0].S.Hi))
	middle.Rsh(middle, 1)
	little := new(big.Int).Lsh(big.NewInt(1), uint(deep-3-widest))
	above, below := dyadOf(t, new(big.Int).Add(middle, little)), dyadOf(t, new(big.Int).Sub(middle, little))
	inexact(t, p, []api.Dyad{above, above}, api.ErrLong)
	inexact(t, tenth(0, 1), []api.Dyad{above}, api.ErrLong)
	for _, at := range [][]api.Dyad{{above, below}, {below, above}} {
		want := exactByWords(t, p, at)
		if slices.ContainsFunc(want, tooLong) {
			t.Fatal("an entry is too long")
		}
		exact(t, p, at, 2, want...)
	}
}

// P22.3: which of several errors comes first.
func TestOrderOfErrors(t *testing.T) {
	p := tenth(0, 2)
	long := about(t, widest)
	inexact(t, p, []api.Dyad{long, long}, api.ErrLong)
	for _, d := range append(wrong(), dyad.Int(1)) {
		inexact(t, p, []api.Dyad{long, d}, api.ErrArg)
		inexact(t, p, []api.Dyad{d, long}, api.ErrArg)
		inexact(t, p, []api.Dyad{d}, api.ErrShape)
		inexact(t, p, []api.Dyad{long, d, long}, api.ErrShape)
		bad := copied(p)
		bad.Members[1].Area = 0
		inexact(t, bad, []api.Dyad{long, d}, api.ErrMember)
		inexact(t, bad, []api.Dyad{d}, api.ErrMember)
		bad.Joints[0].Fix = 9
		inexact(t, bad, []api.Dyad{d}, api.ErrJoint)
	}
	inexact(t, p, []api.Dyad{long}, api.ErrShape)
}

// P22.3: exact plans of all lengths, against the words: those that are told, and those that are too long.
func TestExactByWords(t *testing.T) {
	r := rand.New(rand.NewSource(13))
	told := map[bool]int{}
	for i := range 200 {
		p := anyPlan(r, 7, r.Intn(9))
		_, places := parts(t, p)
		at := anyExact(t, r, p, []int{60, 1000, widest - 300, widest - 60, widest}[i%5])
		want := exactByWords(t, p, at)
		told[slices.ContainsFunc(want, tooLong)]++
		exact(t, p, at, places.N, want...)
	}
	if told[true] < 30 || told[false] < 100 {
		t.Error(told)
	}
}
