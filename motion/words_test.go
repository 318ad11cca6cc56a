package motion_test

import (
	"math/big"
	"math/rand"
	"slices"
	"strings"
	"testing"

	"girder/api"
	"girder/bars"
	"girder/motion"
)

const (
	edge     = int32(1 << 20) // the greatest size of a coordinate
	fixPoint = api.FixX + api.FixY
	fixAll   = fixPoint + api.FixTurn
	ones     = ^uint64(0)
)

// bar is one from the joint a to the joint b.
func bar(a, b int) api.Member {
	return api.Member{Name: "m", Kind: api.Bar, A: a, B: b, E: 2, Area: 5}
}

// beam is one from the joint a to the joint b, without a hinge.
func beam(a, b int) api.Member {
	return api.Member{Name: "m", Kind: api.Beam, A: a, B: b, E: 2, Area: 5, I: 7}
}

// hinged is a beam with hinges at the ends told.
func hinged(a, b int, atA, atB bool) api.Member {
	m := beam(a, b)
	m.HingeA, m.HingeB = atA, atB
	return m
}

// short is a name for each number up to 675.
func short(i int) string { return string([]byte{'m', 'a' + byte(i/26), 'a' + byte(i%26)}) }

func joint(x, y int32, fix uint8) api.Joint { return api.Joint{X: x, Y: y, Fix: fix} }

// made is a plan of these, each with a name of its own.
func made(joints []api.Joint, members ...api.Member) api.Plan {
	p := api.Plan{Joints: slices.Clone(joints), Members: slices.Clone(members)}
	for i := range p.Joints {
		p.Joints[i].Name = "j" + short(i)
	}
	for i := range p.Members {
		p.Members[i].Name = short(i)
	}
	return p
}

// copied is p in memory of its own.
func copied(p api.Plan) api.Plan {
	return api.Plan{Joints: slices.Clone(p.Joints), Members: slices.Clone(p.Members)}
}

// held is p with what is told held of one joint.
func held(p api.Plan, place int, fix uint8) api.Plan {
	p = copied(p)
	p.Joints[place].Fix = fix
	return p
}

// loose is p with nothing held.
func loose(p api.Plan) api.Plan {
	p = copied(p)
	for i := range p.Joints {
		p.Joints[i].Fix = 0
	}
	return p
}

// longer is p with m put among its members, at a place.
func longer(p api.Plan, at int, m api.Member) api.Plan {
	return made(p.Joints, slices.Insert(slices.Clone(p.Members), at, m)...)
}

// anyCoordinate is mostly a little one, so that members stand along one line now and then.
func anyCoordinate(r *rand.Rand) int32 {
	switch r.Intn(12) {
	case 0:
		return int32(r.Intn(2<<20+1)) - edge
	case 1:
		return edge - 2*edge*int32(r.Intn(2))
	}
	return int32(r.Intn(9)) - 4
}

// anyJoints is n joints at points of their own; of each of them something is held as often as one in so many.
func anyJoints(r *rand.Rand, n, seldom int) []api.Joint {
	var l []api.Joint
	for len(l) < n {
		j := joint(anyCoordinate(r), anyCoordinate(r), 0)
		if r.Intn(seldom) == 0 {
			j.Fix = uint8(r.Intn(8))
		}
		if !slices.ContainsFunc(l, func(k api.Joint) bool { return k.X == j.X && k.Y == j.Y }) {
			l = append(l, j)
		}
	}
	return l
}

// anyMember is one of any kind between two of n joints.
func anyMember(r *rand.Rand, n int) api.Member {
	a := r.Intn(n)
	b := (a + 1 + r.Intn(n-1)) % n
	if r.Intn(2) == 0 {
		return bar(a, b)
	}
	return hinged(a, b, r.Intn(3) == 0, r.Intn(3) == 0)
}

// anyPlan is one that may be, of two to so many joints.
func anyPlan(r *rand.Rand, most, members int) api.Plan {
	n := 2 + r.Intn(most-1)
	l := make([]api.Member, members)
	for i := range l {
		l[i] = anyMember(r, n)
	}
	return made(anyJoints(r, n, 1+r.Intn(4)), l...)
}

// unknown is a joint's x, y or turn: 0, 1, 2.
type unknown struct{ joint, which int }

// unknownsByWords is DOC.md's words, joint by joint.
func unknownsByWords(p api.Plan) []unknown {
	var l []unknown
	for i, j := range p.Joints {
		ends := slices.ContainsFunc(p.Members, func(m api.Member) bool {
			return m.Kind == api.Beam && (m.A == i && !m.HingeA || m.B == i && !m.HingeB)
		})
		if j.Fix&1 == 0 {
			l = append(l, unknown{i, 0})
		}
		if j.Fix&2 == 0 {
			l = append(l, unknown{i, 1})
		}
		if j.Fix&4 == 0 && ends {
			l = append(l, unknown{i, 2})
		}
	}
	return l
}

// springRows is DOC.md's table of a member.
func springRows(p api.Plan, m api.Member) [][6]int64 {
	a, b := p.Joints[m.A], p.Joints[m.B]
	dx, dy := int64(b.X)-int64(a.X), int64(b.Y)-int64(a.Y)
	l2 := dx*dx + dy*dy
	rows := [][6]int64{{-dx, -dy, 0, dx, dy, 0}}
	switch {
	case m.Kind == api.Bar || m.HingeA && m.HingeB:
		return rows
	case m.HingeB:
		return append(rows, [6]int64{-dy, dx, l2, dy, -dx, 0})
	case m.HingeA:
		return append(rows, [6]int64{-dy, dx, 0, dy, -dx, l2})
	}
	return append(rows, [6]int64{-2 * dy, 2 * dx, l2, 2 * dy, -2 * dx, l2}, [6]int64{0, 0, 1, 0, 0, -1})
}

// rowsByWords is the chapter's rows, number by number.
func rowsByWords(p api.Plan) [][]int64 {
	unknowns := unknownsByWords(p)
	var rows [][]int64
	for _, m := range p.Members {
		for _, r := range springRows(p, m) {
			row := make([]int64, len(unknowns))
			for k, u := range unknowns {
				switch u.joint {
				case m.A:
					row[k] = r[u.which]
				case m.B:
					row[k] = r[3+u.which]
				}
			}
			rows = append(rows, row)
		}
	}
	return rows
}

// fractions is rows of whole numbers as fractions.
func fractions(rows [][]int64) [][]*big.Rat {
	out := make([][]*big.Rat, len(rows))
	for i, row := range rows {
		out[i] = whole(row...)
	}
	return out
}

func whole(l ...int64) []*big.Rat {
	out := make([]*big.Rat, len(l))
	for i, n := range l {
		out[i] = big.NewRat(n, 1)
	}
	return out
}

// cleared makes rows, in place, such that each pivot is 1 and stands alone in its column, and tells the pivots.
func cleared(rows [][]*big.Rat, cols int) []int {
	var pivots []int
	for c := range cols {
		at := len(pivots)
		found := slices.IndexFunc(rows[at:], func(row []*big.Rat) bool { return row[c].Sign() != 0 })
		if found < 0 {
			continue
		}
		rows[at], rows[at+found] = rows[at+found], rows[at]
		by := new(big.Rat).Inv(rows[at][c])
		for _, x := range rows[at] {
			x.Mul(x, by)
		}
		for i, row := range rows {
			if i == at || row[c].Sign() == 0 {
				continue
			}
			times := new(big.Rat).Set(row[c])
			for k, x := range row {
				if rows[at][k].Sign() != 0 {
					x.Sub(x, new(big.Rat).Mul(times, rows[at][k]))
				}
			}
		}
		pivots = append(pivots, c)
	}
	return pivots
}

// byWords is what Motions and Spare must tell of p: for each free column the one list with 1 there and 0 at the other free ones that each row sends to 0.
func byWords(p api.Plan) (motions [][]*big.Rat, spare int) {
	rows, cols := fractions(rowsByWords(p)), len(unknownsByWords(p))
	pivots := cleared(rows, cols)
	for c := range cols {
		if slices.Contains(pivots, c) {
			continue
		}
		l := whole(make([]int64, cols)...)
		l[c].SetInt64(1)
		for i, k := range pivots {
			l[k].Neg(rows[i][c])
		}
		motions = append(motions, l)
	}
	return motions, len(rows) - len(pivots)
}

// limbs is n limbs, all of them low but the last one, which is top.
func limbs(n int, low, top uint64) []uint64 {
	return append(slices.Repeat([]uint64{low}, n-1), top)
}

// right is the right ratio of v.
func right(v *big.Rat) api.Ratio {
	list := func(n *big.Int) []uint64 {
		var l []uint64
		for rest := new(big.Int).Abs(n); rest.Sign() != 0; rest.Rsh(rest, 64) {
			l = append(l, new(big.Int).And(rest, new(big.Int).SetUint64(ones)).Uint64())
		}
		return l
	}
	return api.Ratio{Neg: v.Sign() < 0, Num: list(v.Num()), Den: list(v.Denom())}
}

func rights(l []*big.Rat) []api.Ratio {
	out := make([]api.Ratio, len(l))
	for i, v := range l {
		out[i] = right(v)
	}
	return out
}

func ints(l ...int64) []api.Ratio { return rights(whole(l...)) }

// value is the value of a ratio whose Den is not 0.
func value(r api.Ratio) *big.Rat {
	sum := func(l []uint64) *big.Int {
		v := new(big.Int)
		for _, limb := range slices.Backward(l) {
			v.Lsh(v, 64).Or(v, new(big.Int).SetUint64(limb))
		}
		return v
	}
	v := new(big.Rat).SetFrac(sum(r.Num), sum(r.Den))
	if r.Neg {
		v.Neg(v)
	}
	return v
}

func sameRatio(a, b api.Ratio) bool {
	return a.Neg == b.Neg && slices.Equal(a.Num, b.Num) && slices.Equal(a.Den, b.Den)
}

func sameRatios(a, b []api.Ratio) bool { return slices.EqualFunc(a, b, sameRatio) }

func sameMotion(a, b api.Motion) bool { return sameRatios(a.By, b.By) }

// parsed is fractions as texts, cut by spaces.
func parsed(t *testing.T, text string) []*big.Rat {
	t.Helper()
	var l []*big.Rat
	for _, word := range strings.Fields(text) {
		v, ok := new(big.Rat).SetString(word)
		if !ok {
			t.Fatal(word)
		}
		l = append(l, v)
	}
	return l
}

// rows fails unless Rows tells these.
func rows(t *testing.T, p api.Plan, cols int, want ...[]int64) {
	t.Helper()
	g, e := motion.Rows(p)
	if e != api.OK || g.Rows != len(want) || g.Cols != cols || !slices.Equal(g.Data, slices.Concat(want...)) {
		t.Fatalf("Rows(%+v): %+v, %d, not %d columns of %v", p, g, e, cols, want)
	}
}

// moves fails unless Motions tells lists of these numbers, as right ratios, and Spare so many.
func moves(t *testing.T, p api.Plan, spare int, want ...[]*big.Rat) {
	t.Helper()
	l, e := motion.Motions(p)
	if e != api.OK || len(l) != len(want) {
		t.Fatalf("Motions(%+v): %d, %d, not %d", p, len(l), e, len(want))
	}
	for i, m := range l {
		if !sameRatios(m.By, rights(want[i])) {
			t.Fatalf("Motions(%+v): %v at %d, not %v", p, m.By, i, want[i])
		}
	}
	if n, e := motion.Spare(p); e != api.OK || n != spare {
		t.Fatalf("Spare(%+v): %d, %d, not %d", p, n, e, spare)
	}
}

// counts fails unless there are so many motions and spare springs.
func counts(t *testing.T, p api.Plan, motions, spare int) {
	t.Helper()
	l, e := motion.Motions(p)
	n, f := motion.Spare(p)
	if e != api.OK || f != api.OK || len(l) != motions || n != spare {
		t.Fatalf("%+v: %d motions, %d spare, %d, %d, not %d, %d", p, len(l), n, e, f, motions, spare)
	}
}

// checked fails unless all that is told of p, which may be, is what the words say.
func checked(t *testing.T, p api.Plan) {
	t.Helper()
	if e, place := bars.Check(p); e != api.OK {
		t.Fatal(p, e, place)
	}
	rows(t, p, len(unknownsByWords(p)), rowsByWords(p)...)
	want, spare := byWords(p)
	moves(t, p, spare, want...)
}

// move fails unless Moves tells these places.
func move(t *testing.T, p api.Plan, by []api.Ratio, want ...int) {
	t.Helper()
	l, e := motion.Moves(p, api.Motion{By: by})
	if e != api.OK || !slices.Equal(l, want) {
		t.Fatalf("Moves(%+v, %v): %v, %d, not %v", p, by, l, e, want)
	}
}

// unmoved fails unless Moves tells that error, and nothing beside it.
func unmoved(t *testing.T, p api.Plan, by []api.Ratio, want api.Errno) {
	t.Helper()
	if l, e := motion.Moves(p, api.Motion{By: by}); e != want || len(l) != 0 {
		t.Fatalf("Moves(%+v, %v): %v, %d, not %d", p, by, l, e, want)
	}
}

// refused fails unless every call tells that error, whatever else it is asked, and nothing beside it.
func refused(t *testing.T, p api.Plan, want api.Errno) {
	t.Helper()
	g, e := motion.Rows(p)
	l, f := motion.Motions(p)
	n, h := motion.Spare(p)
	if e != want || f != want || h != want || g.Rows != 0 || g.Cols != 0 || len(g.Data) != 0 || len(l) != 0 || n != 0 {
		t.Fatalf("%+v: %v, %v, %d beside %d, %d, %d, not %d", p, g, l, n, e, f, h, want)
	}
	for _, many := range []int{0, 1, 2, 3, 4, 6, 48, 49, 1000} {
		unmoved(t, p, ints(make([]int64, many)...), want)
		unmoved(t, p, make([]api.Ratio, many), want)
	}
}
