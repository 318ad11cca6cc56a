package motion_test

import (
	"math/rand"
	"slices"
	"testing"

	"girder/api"
	"girder/motion"
)

// movesByWords is the chapter's words: the joints, rising, of which an unknown's number is not 0.
func movesByWords(p api.Plan, by []api.Ratio) []int {
	var l []int
	for k, u := range unknownsByWords(p) {
		if value(by[k]).Sign() != 0 && !slices.Contains(l, u.joint) {
			l = append(l, u.joint)
		}
	}
	slices.Sort(l)
	return l
}

// The chapter's example 4.
func TestExampleOfMoves(t *testing.T) {
	move(t, lone(0), ints(0, 0))
	unmoved(t, lone(0), ints(0), api.ErrShape)
}

// P21.3: noughts alone move nothing, in plans with no unknown too.
func TestNoughtsMoveNothing(t *testing.T) {
	move(t, api.Plan{}, nil)
	move(t, api.Plan{}, []api.Ratio{})
	move(t, lone(fixPoint), nil)
	r := rand.New(rand.NewSource(14))
	for range 50 {
		p := anyPlan(r, 16, r.Intn(49))
		move(t, p, ints(make([]int64, len(unknownsByWords(p)))...))
	}
}

// P21.3: one number that is not 0, at each unknown, of either sign and any size, moves the joint that has the unknown.
func TestOneNumberMovesOneJoint(t *testing.T) {
	sizes := []api.Ratio{
		right(parsed(t, "1")[0]), right(parsed(t, "-1")[0]), right(parsed(t, "-3/4")[0]), right(parsed(t, "1/18446744073709551616")[0]), right(parsed(t, "-36893488147419103232/3")[0]),
		{Num: limbs(256, ones, ones), Den: []uint64{1}}, {Num: []uint64{1}, Den: limbs(256, ones, ones)}, {Neg: true, Num: limbs(256, 0, 1), Den: limbs(256, ones, ones)},
	}
	r := rand.New(rand.NewSource(15))
	for range 12 {
		p := anyPlan(r, 16, r.Intn(30))
		unknowns := unknownsByWords(p)
		for k, u := range unknowns {
			by := ints(make([]int64, len(unknowns))...)
			by[k] = sizes[r.Intn(len(sizes))]
			move(t, p, by, u.joint)
		}
	}
	p := loose(made([]api.Joint{joint(0, 0, 0), joint(3, 4, 0)}, beam(0, 1)))
	for _, x := range sizes {
		for k := range 6 {
			by := ints(0, 0, 0, 0, 0, 0)
			by[k] = x
			move(t, p, by, k/3)
		}
	}
}

// P21.3: each joint is told once, rising, whichever of its unknowns move; what is held or no unknown shifts the others' places.
func TestPlacesRise(t *testing.T) {
	l := []api.Joint{joint(0, 0, api.FixX), joint(3, 4, fixPoint), joint(5, 0, 0), joint(7, 7, fixAll), joint(9, 1, api.FixY)}
	p := made(l, beam(2, 1), bar(0, 4), hinged(4, 0, true, false), bar(3, 0))
	// The unknowns: y and turn of 0, the turn of 1, x, y and turn of 2, x of 4.
	for _, x := range []struct {
		by   []int64
		want []int
	}{
		{[]int64{1, 0, 0, 0, 0, 0, 0}, []int{0}},
		{[]int64{0, 1, 0, 0, 0, 0, 0}, []int{0}},
		{[]int64{0, 0, 1, 0, 0, 0, 0}, []int{1}},
		{[]int64{0, 0, 0, 1, 0, 0, 0}, []int{2}},
		{[]int64{0, 0, 0, 0, 1, 0, 0}, []int{2}},
		{[]int64{0, 0, 0, 0, 0, 1, 0}, []int{2}},
		{[]int64{0, 0, 0, 0, 0, 0, 1}, []int{4}},
		{[]int64{1, 1, 1, 1, 1, 1, 1}, []int{0, 1, 2, 4}},
		{[]int64{0, -1, 0, 0, 2, -2, 3}, []int{0, 2, 4}},
		{[]int64{0, 0, 5, 1, -1, 0, 0}, []int{1, 2}},
		{[]int64{9, 9, 0, 0, 0, 0, 9}, []int{0, 4}},
	} {
		move(t, p, ints(x.by...), x.want...)
	}
	whole := full(rand.New(rand.NewSource(16)))
	move(t, whole, ints(slices.Repeat([]int64{-1}, 48)...), 0, 1, 2, 3, 4, 5, 6, 7, 8, 9, 10, 11, 12, 13, 14, 15)
	move(t, whole, ints(append(make([]int64, 47), 1)...), 15)
}

// P21.3: too few and too many numbers, of whichever size: the unknowns count, not the moves.
func TestTooFewAndTooMany(t *testing.T) {
	r := rand.New(rand.NewSource(17))
	plans := []api.Plan{{}, lone(0), lone(api.FixY), lone(fixPoint), square(), triangle(true), full(r), made([]api.Joint{joint(0, 0, 0), joint(1, 0, 0)}), made([]api.Joint{joint(0, 0, 0), joint(1, 0, 0)}, hinged(0, 1, true, true))}
	for _, p := range plans {
		n := len(unknownsByWords(p))
		for many := range 60 {
			zeros, bad := ints(make([]int64, many)...), make([]api.Ratio, many)
			if many == n {
				move(t, p, zeros)
			} else {
				unmoved(t, p, zeros, api.ErrShape)
			}
			if many != n || n > 0 {
				unmoved(t, p, bad, api.ErrShape)
			}
		}
		unmoved(t, p, ints(make([]int64, 1<<16)...), api.ErrShape)
	}
}

// P21.3: ratios that are not right, at each place, 0 by their value or not.
func TestNotRight(t *testing.T) {
	wrong := []api.Ratio{
		{}, {Den: []uint64{}}, {Den: []uint64{0}}, {Den: []uint64{2}}, {Den: []uint64{1, 0}}, {Neg: true, Den: []uint64{1}}, {Num: []uint64{0}, Den: []uint64{1}}, {Num: []uint64{1}}, {Num: []uint64{1}, Den: []uint64{0}},
		{Num: []uint64{2}, Den: []uint64{4}}, {Num: []uint64{3}, Den: []uint64{3}}, {Num: []uint64{1, 0}, Den: []uint64{1}}, {Num: []uint64{1}, Den: []uint64{3, 0}}, {Neg: true, Num: []uint64{6}, Den: []uint64{4}},
		{Num: limbs(257, 0, 1), Den: []uint64{1}}, {Num: []uint64{1}, Den: limbs(257, 0, 1)}, {Num: limbs(1000, ones, ones), Den: limbs(900, ones, ones)},
	}
	p := loose(made([]api.Joint{joint(0, 0, 0), joint(3, 4, 0)}, beam(0, 1)))
	for _, x := range wrong {
		for k := range 6 {
			for _, others := range [][]int64{{0, 0, 0, 0, 0, 0}, {1, -2, 3, -4, 5, -6}} {
				by := ints(others...)
				by[k] = x
				unmoved(t, p, by, api.ErrShape)
			}
		}
		unmoved(t, lone(fixPoint), []api.Ratio{x}, api.ErrShape)
	}
	move(t, p, []api.Ratio{{Num: []uint64{}, Den: []uint64{1}}, {Num: []uint64{}, Den: []uint64{1}}, {Den: []uint64{1}}, {Den: []uint64{1}}, {Den: []uint64{1}}, {Den: []uint64{1}}})
}

// P21.3: numbers that are no motion, against the words.
func TestNoMotion(t *testing.T) {
	move(t, lone(0), ints(4, 3), 1)
	move(t, triangle(true), ints(0, 1, 0), 2)
	move(t, triangle(true), ints(1, 0, 0), 1)
	r := rand.New(rand.NewSource(18))
	for range 500 {
		p := anyPlan(r, 16, r.Intn(20))
		by := ints(make([]int64, len(unknownsByWords(p)))...)
		for k := range by {
			if r.Intn(4) == 0 {
				by[k] = ints(int64(r.Intn(2000) - 1000))[0]
			}
		}
		move(t, p, by, movesByWords(p, by)...)
	}
}

// P21.3: motions that Motions told, handed back.
func TestMotionsToldAgain(t *testing.T) {
	r := rand.New(rand.NewSource(19))
	told := 0
	for range 300 {
		p := anyPlan(r, 10, r.Intn(14))
		l, e := motion.Motions(p)
		if e != api.OK {
			t.Fatal(e)
		}
		for _, m := range l {
			move(t, p, m.By, movesByWords(p, m.By)...)
			unmoved(t, p, m.By[1:], api.ErrShape)
			unmoved(t, p, append(slices.Clone(m.By), m.By[0]), api.ErrShape)
			told++
		}
	}
	if told < 300 {
		t.Error(told)
	}
}
