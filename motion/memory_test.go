package motion_test

import (
	"math"
	"math/rand"
	"slices"
	"testing"

	"girder/api"
	"girder/motion"
)

// roomy is l in memory of its own, with room behind it that holds filler.
func roomy[T any](l []T, filler T) []T {
	return append(slices.Clone(l), filler, filler, filler)[: len(l) : len(l)+3]
}

// room is the whole memory of l, what is spare too.
func room[T any](l []T) []T { return l[:cap(l)] }

// roomyPlan is p with room behind its lists that holds what would be refused.
func roomyPlan(p api.Plan) api.Plan {
	return api.Plan{Joints: roomy(p.Joints, api.Joint{Name: "A", X: 77}), Members: roomy(p.Members, api.Member{Name: "A", E: math.NaN()})}
}

func roomyRatios(l []api.Ratio) []api.Ratio {
	out := make([]api.Ratio, len(l))
	for i, r := range l {
		out[i] = api.Ratio{Neg: r.Neg, Num: roomy(r.Num, 77), Den: roomy(r.Den, 99)}
	}
	return roomy(out, api.Ratio{Neg: true})
}

// sameMember goes by bits, as what is no number is unlike itself.
func sameMember(a, b api.Member) bool {
	bits := func(m api.Member) [3]uint64 {
		return [3]uint64{math.Float64bits(m.E), math.Float64bits(m.Area), math.Float64bits(m.I)}
	}
	if bits(a) != bits(b) {
		return false
	}
	a.E, a.Area, a.I, b.E, b.Area, b.I = 0, 0, 0, 0, 0, 0
	return a == b
}

func samePlan(a, b api.Plan) bool {
	return slices.Equal(a.Joints, b.Joints) && slices.EqualFunc(a.Members, b.Members, sameMember)
}

// spoilt is p with one joint or member that may not be.
func spoilt(r *rand.Rand, p api.Plan) api.Plan {
	p = copied(p)
	if len(p.Members) > 0 && r.Intn(2) == 0 {
		p.Members[r.Intn(len(p.Members))].E = math.NaN()
		return p
	}
	p.Joints[r.Intn(len(p.Joints))].Fix = 9
	return p
}

// answers is all that the calls tell of p, and of the numbers by.
type answers struct {
	rows    api.Grid
	motions []api.Motion
	spare   int
	moves   []int
	errors  [4]api.Errno
}

func asked(p api.Plan, by []api.Ratio) answers {
	var a answers
	a.rows, a.errors[0] = motion.Rows(p)
	a.motions, a.errors[1] = motion.Motions(p)
	a.spare, a.errors[2] = motion.Spare(p)
	a.moves, a.errors[3] = motion.Moves(p, api.Motion{By: by})
	return a
}

func sameAnswers(a, b answers) bool {
	return a.rows.Rows == b.rows.Rows && a.rows.Cols == b.rows.Cols && slices.Equal(a.rows.Data, b.rows.Data) &&
		slices.EqualFunc(a.motions, b.motions, sameMotion) && a.spare == b.spare && slices.Equal(a.moves, b.moves) && a.errors == b.errors
}

// anyNumbers is n of them, some 0.
func anyNumbers(r *rand.Rand, n int) []api.Ratio {
	l := make([]int64, n)
	for i := range l {
		l[i] = int64(r.Intn(5) - 2)
	}
	return ints(l...)
}

// R3: what is handed in is left as it was, its room too, and what stands there plays no part; whether it is refused or not.
func TestArgumentsAreLeft(t *testing.T) {
	r := rand.New(rand.NewSource(31))
	for i := range 400 {
		p := anyPlan(r, 9, r.Intn(14))
		by := anyNumbers(r, len(unknownsByWords(p)))
		if i%4 == 0 {
			p = spoilt(r, p)
		}
		if i%5 == 0 {
			by = append(by, api.Ratio{Num: []uint64{2}, Den: []uint64{4}})
		}
		q, numbers := roomyPlan(p), roomyRatios(by)
		was := api.Plan{Joints: slices.Clone(room(q.Joints)), Members: slices.Clone(room(q.Members))}

		if got, want := asked(q, numbers), asked(p, by); !sameAnswers(got, want) {
			t.Fatal(got, want)
		}
		if !samePlan(api.Plan{Joints: room(q.Joints), Members: room(q.Members)}, was) {
			t.Fatal("the plan has changed:", q)
		}
		for k, x := range room(numbers) {
			switch {
			case k >= len(by):
				if !x.Neg || x.Num != nil || x.Den != nil {
					t.Fatal("the room has changed:", x)
				}
			case x.Neg != by[k].Neg || !slices.Equal(room(x.Num), room(roomy(by[k].Num, 77))) || !slices.Equal(room(x.Den), room(roomy(by[k].Den, 99))):
				t.Fatal("a number has changed:", x)
			}
		}
	}
}

// R3: plans whose lists are pieces of others', and numbers that are all pieces of one list.
func TestArgumentsThatShare(t *testing.T) {
	all := full(rand.New(rand.NewSource(32)))
	was := copied(all)
	limbs := []uint64{5, 7, 9, 1}
	for from := range 40 {
		part := api.Plan{Joints: all.Joints, Members: all.Members[from : from+6]}
		apart := copied(part)
		checked(t, part)
		by := make([]api.Ratio, len(unknownsByWords(part)))
		for k := range by {
			if k%3 == 0 {
				by[k] = api.Ratio{Den: limbs[3:]}
			} else {
				by[k] = api.Ratio{Neg: k%2 == 0, Num: limbs[k%2 : 1+k%2], Den: limbs[2:3:4]}
			}
		}
		if got, want := asked(part, by), asked(apart, by); !sameAnswers(got, want) {
			t.Fatal(got, want)
		}
		move(t, part, by, movesByWords(apart, by)...)
	}
	// The motions that are told of a plan, handed back all in one list's memory.
	l, _ := motion.Motions(loose(lone(0)))
	both := slices.Concat(l[0].By, l[1].By, l[2].By)
	for from := 0; from+4 <= len(both); from++ {
		by := both[from : from+4]
		move(t, loose(lone(0)), by, movesByWords(loose(lone(0)), by)...)
	}
	if !samePlan(all, was) || !slices.Equal(limbs, []uint64{5, 7, 9, 1}) {
		t.Error("changed:", all, limbs)
	}
}

// fill writes x all over the memory of l, its room too.
func fill[T any](l []T, x T) {
	for i := range room(l) {
		room(l)[i] = x
	}
}

// R3, R4: whoever writes into an answer changes no argument, no other answer and no later one.
func TestAnswersAreNew(t *testing.T) {
	r := rand.New(rand.NewSource(33))
	for range 150 {
		p := anyPlan(r, 7, r.Intn(8))
		by := anyNumbers(r, len(unknownsByWords(p)))
		was, numbers := copied(p), roomyRatios(by)
		want, first, second := asked(p, by), asked(p, by), asked(p, by)
		fill(first.rows.Data, 99)
		fill(first.moves, 99)
		for _, m := range first.motions {
			for _, x := range m.By {
				fill(x.Num, 99)
				fill(x.Den, 99)
			}
			fill(m.By, api.Ratio{Neg: true})
		}
		fill(first.motions, api.Motion{})
		if !sameAnswers(second, want) {
			t.Fatal("two answers share memory:", second, want)
		}
		if third := asked(p, by); !sameAnswers(third, want) {
			t.Fatal("what was answered is kept:", third, want)
		}
		if !samePlan(p, was) || !sameRatios(by, numbers) {
			t.Fatal("an answer shares memory with what was handed in:", p, by)
		}
	}
}

// R3: no two lists within one answer share memory, their room neither.
func TestListsOfOneAnswer(t *testing.T) {
	r := rand.New(rand.NewSource(34))
	for range 60 {
		p := anyPlan(r, 6, r.Intn(7))
		want, _ := byWords(p)
		l, _ := motion.Motions(p)
		for i, m := range l {
			for k, x := range m.By {
				fill(x.Num, 99)
				if !slices.Equal(x.Den, right(want[i][k]).Den) {
					t.Fatal("Num and Den share memory")
				}
				fill(x.Den, 98)
				if k+1 < len(m.By) && !sameRatio(m.By[k+1], right(want[i][k+1])) {
					t.Fatal("two numbers share memory")
				}
			}
			fill(m.By, api.Ratio{Neg: true})
			for k := i + 1; k < len(l); k++ {
				if !sameRatios(l[k].By, rights(want[k])) {
					t.Fatal("two motions share memory")
				}
			}
		}
	}
}

// R3: what is handed in is not kept: an answer stands though the plan and the numbers change behind it.
func TestArgumentsAreNotKept(t *testing.T) {
	r := rand.New(rand.NewSource(35))
	for range 100 {
		p := anyPlan(r, 7, 1+r.Intn(8))
		by := anyNumbers(r, len(unknownsByWords(p)))
		want := asked(copied(p), roomyRatios(by))
		got := asked(p, by)
		for _, x := range by {
			fill(x.Num, 99)
			fill(x.Den, 99)
		}
		fill(by, api.Ratio{})
		fill(p.Joints, api.Joint{X: 9})
		fill(p.Members, api.Member{A: 9})
		if !sameAnswers(got, want) {
			t.Fatal(got, want)
		}
	}
}

// R4: what was asked ahead, refused or not, plays no part.
func TestNothingIsLeftBehind(t *testing.T) {
	r := rand.New(rand.NewSource(36))
	p := square(bar(0, 2))
	want := asked(p, ints(0, 1, 0, 1, 0))
	for range 50 {
		q := anyPlan(r, 7, r.Intn(9))
		asked(q, nil)
		asked(spoilt(r, q), ints(1, 2, 3))
		if got := asked(p, ints(0, 1, 0, 1, 0)); !sameAnswers(got, want) {
			t.Fatal(got, want)
		}
	}
}
