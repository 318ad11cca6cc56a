package bars_test

import (
	"math"
	"math/rand"
	"slices"
	"testing"

	"girder/api"
	"girder/bars"
	"girder/ratio"
)

const spare = 3 // places behind a list, which are its room

// roomy is l in memory of its own, with room behind it that holds filler.
func roomy[T any](l []T, filler T) []T {
	return append(slices.Clone(l), filler, filler, filler)[: len(l) : len(l)+spare]
}

// whole memory of l, its room too.
func room[T any](l []T) []T { return l[:cap(l)] }

func roomyPlan(p api.Plan) api.Plan {
	return api.Plan{Joints: roomy(p.Joints, api.Joint{Name: "ja", X: 77}), Members: roomy(p.Members, api.Member{Name: "maa", E: math.NaN()})}
}

func roomyRatios(l []api.Ratio) []api.Ratio {
	out := make([]api.Ratio, len(l))
	for i, r := range l {
		out[i] = api.Ratio{Neg: r.Neg, Num: roomy(r.Num, 77), Den: roomy(r.Den, 99)}
	}
	return roomy(out, api.Ratio{Neg: true})
}

func someRatios(r *rand.Rand, n int) []api.Ratio {
	by := make([]api.Ratio, n)
	for k := range by {
		by[k] = anyRatio(r, 3)
	}
	return by
}

// R3: what is handed in is left as it was, its room too, and what stands there plays no part.
func TestArgumentsAreLeft(t *testing.T) {
	r := rand.New(rand.NewSource(31))
	for i := range 400 {
		p := anyPlan(r, r.Intn(20))
		u, _ := bars.Unknowns(p)
		by := someRatios(r, u.N)
		if i%4 == 0 {
			p = spoilt(r, p)
		}
		q, withRoom := roomyPlan(p), roomyRatios(by)
		joints, members := slices.Clone(room(q.Joints)), slices.Clone(room(q.Members))

		e, place := byWords(p)
		checks(t, q, e, place)
		got, f := bars.Stretch(q, withRoom)
		want, g := bars.Stretch(p, by)
		if f != g || !slices.EqualFunc(got, want, sameRatio) {
			t.Fatal(got, f, want, g)
		}
		if !slices.Equal(room(q.Joints), joints) || !slices.EqualFunc(room(q.Members), members, sameMember) {
			t.Fatal("the plan has changed:", q)
		}
		for k, x := range room(withRoom) {
			if k >= len(by) {
				if !x.Neg || x.Num != nil || x.Den != nil {
					t.Fatal("the room has changed:", x)
				}
				continue
			}
			if x.Neg != by[k].Neg || !slices.Equal(room(x.Num), append(slices.Clone(by[k].Num), 77, 77, 77)) || !slices.Equal(room(x.Den), append(slices.Clone(by[k].Den), 99, 99, 99)) {
				t.Fatal("a ratio has changed:", x)
			}
		}
	}
}

// R3: members, joints and limbs may share their memory with others.
func TestArgumentsThatShare(t *testing.T) {
	all := frame(48)
	was := copied(all)
	for first := range 40 {
		part := api.Plan{Joints: all.Joints, Members: all.Members[first : first+8]}
		springs(t, part)
		apart := copied(part)
		u, e := bars.Unknowns(part)
		v, f := bars.Unknowns(apart)
		if e != f || u.N != v.N || !slices.Equal(u.Of, v.Of) {
			t.Fatal(u, v)
		}
		// All numbers, above and below, are pieces of one list.
		row := []uint64{5, 7, 9, 1}
		by := make([]api.Ratio, u.N)
		for k := range by {
			by[k] = api.Ratio{Neg: k%3 == 0, Num: row[k%2 : 1+k%2], Den: row[2:3:4]}
		}
		same := make([]api.Ratio, u.N)
		for k, x := range by {
			same[k] = api.Ratio{Neg: x.Neg, Num: slices.Clone(x.Num), Den: slices.Clone(x.Den)}
		}
		stretched(t, part, by, byHand(t, apart, same)...)
		if !slices.Equal(row, []uint64{5, 7, 9, 1}) {
			t.Fatal(row)
		}
	}
	part := api.Plan{Joints: all.Joints[4:8], Members: []api.Member{bar(0, 3)}}
	springs(t, part)
	if !slices.Equal(all.Joints, was.Joints) || !slices.EqualFunc(all.Members, was.Members, sameMember) {
		t.Error("changed:", all)
	}
}

// fill writes x all over the memory of l, its room too.
func fill[T any](l []T, x T) {
	for i := range room(l) {
		room(l)[i] = x
	}
}

// R3, R4: what is handed out is new: whoever writes there changes neither what was handed in, nor another answer, nor a later one.
func TestAnswersAreNew(t *testing.T) {
	r := rand.New(rand.NewSource(32))
	for range 100 {
		p := anyPlan(r, 1+r.Intn(10))
		u, _ := bars.Unknowns(p)
		by := someRatios(r, u.N)
		was, before := copied(p), slices.Clone(u.Of)
		first, second := sprung(t, p), sprung(t, p)
		want := byHand(t, p, by)
		limbsWere := roomyRatios(by)

		fill(first, api.Spring{Member: 99})
		if !slices.EqualFunc(second, springsByWords(t, p), sameSpring) {
			t.Fatal("springs share memory")
		}
		again, _ := bars.Unknowns(p)
		fill(u.Of, [3]int{99, 99, 99})
		if !slices.Equal(again.Of, before) {
			t.Fatal("unknowns share memory")
		}
		stretches, _ := bars.Stretch(p, by)
		for i := range stretches {
			fill(stretches[i].Num, 99)
			fill(stretches[i].Den, 99)
			stretches[i].Neg = true
			for k := i + 1; k < len(stretches); k++ {
				if !sameRatio(stretches[k], right(want[k])) {
					t.Fatal("stretches share memory")
				}
			}
		}
		if !slices.EqualFunc(by, limbsWere, sameRatio) || !slices.Equal(p.Joints, was.Joints) || !slices.EqualFunc(p.Members, was.Members, sameMember) {
			t.Fatal("answers share memory with what was handed in")
		}
		stretched(t, p, by, want...)
		springs(t, p)
		numbered(t, p, again.N, before...)
	}
}

// R3: an answer that is one of the numbers that came in, or 0, is new all the same.
func TestAnswersLikeArguments(t *testing.T) {
	p := api.Plan{Joints: []api.Joint{{Name: "a", Fix: 7}, {Name: "b", X: 1, Fix: api.FixY}}, Members: []api.Member{bar(0, 1), bar(0, 1)}}
	p.Members[1].Name = "n"
	for _, x := range []api.Ratio{over(7, 3), ratio.Int(0), {Num: limbs(255, 0, 1<<63), Den: []uint64{3}}} {
		by := []api.Ratio{x}
		want := value(x)
		l, _ := bars.Stretch(p, by)
		fill(l[0].Num, 99)
		fill(l[0].Den, 99)
		if !sameRatio(l[1], right(want)) || !sameRatio(by[0], right(want)) {
			t.Error(l, by)
		}
		fill(by[0].Num, 98)
		fill(by[0].Den, 98)
		if !sameRatio(l[1], right(want)) {
			t.Error(l)
		}
	}
}
