package rank_test

import (
	"math"
	"math/big"
	"math/rand"
	"slices"
	"testing"

	"girder/api"
	"girder/dyad"
	"girder/rank"
	"girder/ratio"
)

const (
	mostRows = api.MaxRows
	mostCols = api.MaxOrder
	ones     = math.MaxUint64
	low      = math.MinInt64
	high     = math.MaxInt64
)

func grid(rows, cols int, l ...int64) api.Grid { return api.Grid{Rows: rows, Cols: cols, Data: l} }

// noughts is a grid of noughts alone.
func noughts(rows, cols int) api.Grid { return grid(rows, cols, make([]int64, rows*cols)...) }

func small(r *rand.Rand) int64 { return int64(r.Intn(7) - 3) }

func anyInt(r *rand.Rand) int64 {
	switch r.Intn(8) {
	case 0:
		return []int64{low, low + 1, high, high - 1, -1, 0, 1}[r.Intn(7)]
	case 1:
		return small(r)
	}
	return int64(r.Uint64())
}

func randomGrid(r *rand.Rand, rows, cols int, number func(r *rand.Rand) int64) api.Grid {
	g := noughts(rows, cols)
	for i := range g.Data {
		g.Data[i] = number(r)
	}
	return g
}

// joined is a times b: its rank is at most how many columns a has.
func joined(a, b api.Grid) api.Grid {
	g := noughts(a.Rows, b.Cols)
	for i := range a.Rows {
		for j := range b.Cols {
			for k := range a.Cols {
				g.Data[i*b.Cols+j] += a.Data[i*a.Cols+k] * b.Data[k*b.Cols+j]
			}
		}
	}
	return g
}

// limbsOf is the limbs of the size of v.
func limbsOf(v *big.Int) []uint64 {
	var out []uint64
	for rest := new(big.Int).Abs(v); rest.Sign() != 0; rest.Rsh(rest, 64) {
		out = append(out, new(big.Int).And(rest, new(big.Int).SetUint64(ones)).Uint64())
	}
	return out
}

// wholeOf is the value of limbs.
func wholeOf(x []uint64) *big.Int {
	v := new(big.Int)
	for _, limb := range slices.Backward(x) {
		v.Lsh(v, 64).Or(v, new(big.Int).SetUint64(limb))
	}
	return v
}

// value is the value of a ratio whose Den is not 0.
func value(x api.Ratio) *big.Rat {
	v := new(big.Rat).SetFrac(wholeOf(x.Num), wholeOf(x.Den))
	if x.Neg {
		v.Neg(v)
	}
	return v
}

// valueOfDyad is the value of d.
func valueOfDyad(d api.Dyad) *big.Rat {
	v := new(big.Rat).SetInt(wholeOf(d.Mag))
	power := new(big.Rat).SetInt(new(big.Int).Lsh(big.NewInt(1), uint(max(d.Exp, -d.Exp))))
	if d.Exp < 0 {
		power.Inv(power)
	}
	if d.Neg {
		v.Neg(v)
	}
	return v.Mul(v, power)
}

// rightOf is the right ratio of v, ErrLong if there is none; by math/big alone.
func rightOf(v *big.Rat) (api.Ratio, api.Errno) {
	if v.Num().BitLen() > 16384 || v.Denom().BitLen() > 16384 {
		return api.Ratio{}, api.ErrLong
	}
	return api.Ratio{Neg: v.Sign() < 0, Num: limbsOf(v.Num()), Den: limbsOf(v.Denom())}, api.OK
}

func same(a, b api.Ratio) bool {
	return a.Neg == b.Neg && slices.Equal(a.Num, b.Num) && slices.Equal(a.Den, b.Den)
}

func sameList(a, b []api.Ratio) bool { return slices.EqualFunc(a, b, same) }

func sameLists(a, b [][]api.Ratio) bool { return slices.EqualFunc(a, b, sameList) }

// frac is n over d.
func frac(n, d int64) api.Ratio {
	x, _ := rightOf(big.NewRat(n, d))
	return x
}

func fracs(l ...int64) []api.Ratio {
	var out []api.Ratio
	for _, n := range l {
		out = append(out, frac(n, 1))
	}
	return out
}

// cleared is rows of fractions made so that each pivot stands alone in its column, as 1, with the pivots: by math/big, fraction by fraction.
func cleared(rows [][]*big.Rat, cols int) (pivots []int) {
	for c := range cols {
		at := len(pivots)
		found := slices.IndexFunc(rows[at:], func(row []*big.Rat) bool { return row[c].Sign() != 0 })
		if found < 0 {
			continue
		}
		rows[at], rows[at+found] = rows[at+found], rows[at]
		by := new(big.Rat).Inv(rows[at][c])
		for _, x := range rows[at] {
			x.Mul(x, by)
		}
		for i, row := range rows {
			if i != at && row[c].Sign() != 0 {
				times := new(big.Rat).Set(row[c])
				for j, x := range row {
					x.Sub(x, new(big.Rat).Mul(times, rows[at][j]))
				}
			}
		}
		pivots = append(pivots, c)
	}
	return pivots
}

// told is the pivots and the kernel of g by fractions.
func told(g api.Grid) (pivots []int, kernel [][]api.Ratio) {
	rows := make([][]*big.Rat, g.Rows)
	for i := range rows {
		for _, n := range g.Data[i*g.Cols : (i+1)*g.Cols] {
			rows[i] = append(rows[i], new(big.Rat).SetInt64(n))
		}
	}
	pivots = cleared(rows, g.Cols)
	for c := range g.Cols {
		if slices.Contains(pivots, c) {
			continue
		}
		list := fracs(make([]int64, g.Cols)...)
		list[c] = frac(1, 1)
		for i, p := range pivots {
			list[p], _ = rightOf(new(big.Rat).Neg(rows[i][c]))
		}
		kernel = append(kernel, list)
	}
	return pivots, kernel
}

// check fails unless Rank and Kernel of g are as fractions tell them.
func check(t *testing.T, g api.Grid) {
	t.Helper()
	pivots, kernel := told(g)
	n, l, e := rank.Rank(g)
	if n != len(pivots) || !slices.Equal(l, pivots) || e != api.OK {
		t.Fatalf("Rank of %v: %d, %v, %v, want %v", g, n, l, e, pivots)
	}
	k, e := rank.Kernel(g)
	if !sameLists(k, kernel) || e != api.OK {
		t.Fatalf("Kernel of %v: %v, %v, want %v", g, k, e, kernel)
	}
}

// wrong are grids that are not right, in each way.
func wrong() []api.Grid {
	return []api.Grid{
		grid(1, 2, 1),
		grid(1, 2, 1, 2, 3),
		grid(1, 1),
		grid(0, 0, 1),
		grid(0, 2, 1, 2),
		grid(2, 0, 1, 2),
		grid(-1, 0),
		grid(0, -1),
		grid(-1, -1),
		grid(-1, -1, 1),
		grid(-1, 2, 1, 2),
		grid(2, -1, 1, 2),
		grid(-2, -2, 1, 2, 3, 4),
		noughts(mostRows+1, 0),
		noughts(mostRows+1, 1),
		noughts(mostRows+1, mostCols),
		noughts(0, mostCols+1),
		noughts(1, mostCols+1),
		noughts(mostRows, mostCols+1),
		noughts(mostRows+1, mostCols+1),
		grid(mostRows, mostCols, make([]int64, mostRows*mostCols-1)...),
		grid(mostRows, mostCols, make([]int64, mostRows*mostCols+1)...),
		grid(math.MaxInt, 0),
		grid(0, math.MaxInt),
		grid(math.MinInt, 0),
		grid(0, math.MinInt),
		grid(math.MaxInt, math.MaxInt, 1),
		grid(math.MinInt, math.MinInt),
		grid(1<<32, 1<<32),
		grid(1<<62, 4),
		grid(3, math.MaxInt/3*2),
	}
}

// P11.1: which grids are right.
func TestRight(t *testing.T) {
	for _, rows := range []int{0, 1, 2, mostRows - 1, mostRows} {
		for _, cols := range []int{0, 1, 2, mostCols - 1, mostCols} {
			if !rank.Right(noughts(rows, cols)) {
				t.Error("not right:", rows, cols)
			}
		}
	}
	for _, g := range wrong() {
		if rank.Right(g) {
			t.Error("right:", g.Rows, g.Cols, len(g.Data))
		}
	}
}

// P11.1, P11.2: what is no right grid is refused with zeros.
func TestWrongGrids(t *testing.T) {
	for _, g := range wrong() {
		if n, l, e := rank.Rank(g); n != 0 || len(l) != 0 || e != api.ErrShape {
			t.Error("Rank of", g.Rows, g.Cols, len(g.Data), "is", n, l, e)
		}
		if k, e := rank.Kernel(g); len(k) != 0 || e != api.ErrShape {
			t.Error("Kernel of", g.Rows, g.Cols, len(g.Data), "is", k, e)
		}
	}
}

// P11.1, P11.2: the chapter's examples, DOC.md's fifth one, and more by hand.
func TestGrids(t *testing.T) {
	for _, x := range []struct {
		g      api.Grid
		pivots []int
		kernel [][]api.Ratio
	}{
		{grid(2, 3, 1, 2, 3, 2, 4, 6), []int{0}, [][]api.Ratio{fracs(-2, 1, 0), fracs(-3, 0, 1)}},
		{grid(2, 2, 0, 1, 0, 2), []int{1}, [][]api.Ratio{fracs(1, 0)}},
		{grid(0, 2), nil, [][]api.Ratio{fracs(1, 0), fracs(0, 1)}},
		{grid(2, 0), nil, nil},
		{grid(0, 0), nil, nil},
		{grid(2, 2, 1, 2, 3, 4), []int{0, 1}, nil},
		{grid(2, 2, low, high, 1, -1), []int{0, 1}, nil},
		{grid(3, 3, 1, 2, 3, 2, 4, 6, 0, 0, 1), []int{0, 2}, [][]api.Ratio{fracs(-2, 1, 0)}},
		{grid(1, 1, 0), nil, [][]api.Ratio{fracs(1)}},
		{grid(1, 1, low), []int{0}, nil},
		{grid(1, 2, low, high), []int{0}, [][]api.Ratio{{over([]uint64{high}, []uint64{1 << 63}), frac(1, 1)}}},
		{grid(1, 2, 3, 2), []int{0}, [][]api.Ratio{{frac(-2, 3), frac(1, 1)}}},
		{grid(1, 2, -3, 2), []int{0}, [][]api.Ratio{{frac(2, 3), frac(1, 1)}}},
		{grid(2, 2, low, low, low, low), []int{0}, [][]api.Ratio{fracs(-1, 1)}},
		{grid(3, 1, 0, 0, 5), []int{0}, nil},
		{grid(2, 4, 0, 0, 0, 0, 0, 0, 7, 1), []int{2}, [][]api.Ratio{fracs(1, 0, 0, 0), fracs(0, 1, 0, 0), {frac(0, 1), frac(0, 1), frac(-1, 7), frac(1, 1)}}},
		{grid(2, 3, 0, 0, 1, 1, 0, 0), []int{0, 2}, [][]api.Ratio{fracs(0, 1, 0)}},
		// The last column alone hangs together with all ahead of it.
		{grid(3, 4, 1, 0, 0, 1, 0, 1, 0, 2, 0, 0, 2, 3), []int{0, 1, 2}, [][]api.Ratio{{frac(-1, 1), frac(-2, 1), frac(-3, 2), frac(1, 1)}}},
	} {
		check(t, x.g)
		n, l, e := rank.Rank(x.g)
		k, f := rank.Kernel(x.g)
		if n != len(x.pivots) || !slices.Equal(l, x.pivots) || !sameLists(k, x.kernel) || e != api.OK || f != api.OK {
			t.Error(x.g, "has", n, l, e, k, f)
		}
	}
}

// P11.1, P11.2: grids of many shapes, as fractions tell them: few numbers, so that columns hang together, and all.
func TestGridsByFractions(t *testing.T) {
	r := rand.New(rand.NewSource(11))
	for range 1500 {
		rows, cols := r.Intn(8), r.Intn(8)
		check(t, randomGrid(r, rows, cols, small))
		check(t, randomGrid(r, rows, cols, anyInt))
		few := r.Intn(5)
		check(t, joined(randomGrid(r, rows, few, small), randomGrid(r, few, cols, small)))
		check(t, randomGrid(r, rows, cols, func(r *rand.Rand) int64 { return int64(r.Intn(5) / 4) }))
	}
	check(t, noughts(mostRows, mostCols))
	for _, x := range [][2]int{{20, 12}, {12, 20}, {30, 48}, {144, 9}, {48, 7}, {1, 48}, {144, 1}} {
		check(t, randomGrid(r, x[0], x[1], small))
		check(t, joined(randomGrid(r, x[0], 6, small), randomGrid(r, 6, x[1], small)))
	}
}

// P11.1: a column is a pivot just if the columns up to it have a greater rank than those ahead of it.
func TestPivotsColumnByColumn(t *testing.T) {
	r := rand.New(rand.NewSource(12))
	for range 200 {
		few := r.Intn(6)
		g := joined(randomGrid(r, 9, few, small), randomGrid(r, few, 9, small))
		_, pivots, _ := rank.Rank(g)
		for c := range g.Cols {
			before, _, _ := rank.Rank(firstColumns(g, c))
			with, _, _ := rank.Rank(firstColumns(g, c+1))
			if slices.Contains(pivots, c) != (with > before) {
				t.Fatal(g, pivots, c, before, with)
			}
		}
	}
}

// firstColumns is the first n columns of g.
func firstColumns(g api.Grid, n int) api.Grid {
	out := noughts(g.Rows, n)
	for i := range g.Rows {
		copy(out.Data[i*n:(i+1)*n], g.Data[i*g.Cols:])
	}
	return out
}

// sent is what g's rows send list to.
func sent(g api.Grid, list []api.Ratio) []*big.Rat {
	out := make([]*big.Rat, g.Rows)
	for i := range out {
		out[i] = new(big.Rat)
		for j, x := range list {
			if n := g.Data[i*g.Cols+j]; n != 0 && len(x.Num) > 0 {
				out[i].Add(out[i], new(big.Rat).Mul(value(x), new(big.Rat).SetInt64(n)))
			}
		}
	}
	return out
}

// isKernel fails unless lists are what P11.2 says of g with these pivots.
func isKernel(t *testing.T, g api.Grid, pivots []int, lists [][]api.Ratio) {
	t.Helper()
	var free []int
	for c := range g.Cols {
		if !slices.Contains(pivots, c) {
			free = append(free, c)
		}
	}
	if len(lists) != len(free) {
		t.Fatal(len(lists), "lists for", free)
	}
	for k, list := range lists {
		if len(list) != g.Cols {
			t.Fatal("a list of", len(list))
		}
		for _, c := range free {
			want := frac(0, 1)
			if c == free[k] {
				want = frac(1, 1)
			}
			if !same(list[c], want) {
				t.Fatal("at the free column", c, "of list", k, list[c])
			}
		}
		for _, x := range list {
			if !ratio.Right(x) {
				t.Fatal("not right:", x)
			}
		}
		for _, x := range sent(g, list) {
			if x.Sign() != 0 {
				t.Fatal("list", k, "is not sent to 0")
			}
		}
	}
}

// P11.1, P11.2: the greatest grids, of the longest numbers.
func TestGreatGrids(t *testing.T) {
	r := rand.New(rand.NewSource(13))
	// 47 rows of the greatest numbers: one free column, the last.
	edge := func(r *rand.Rand) int64 { return []int64{low, high}[r.Intn(2)] }
	for _, x := range []struct {
		g    api.Grid
		rank int
	}{
		{randomGrid(r, mostCols-1, mostCols, edge), mostCols - 1},
		{randomGrid(r, 30, mostCols, anyInt), 30},
		{joined(randomGrid(r, 60, 40, small), randomGrid(r, 40, mostCols, func(r *rand.Rand) int64 { return int64(r.Uint32()) })), 40},
		{joined(randomGrid(r, mostRows, 20, small), randomGrid(r, 20, mostCols, small)), 20},
		{randomGrid(r, mostRows, mostCols, func(r *rand.Rand) int64 { return int64(r.Uint32()) }), mostCols},
	} {
		n, pivots, e := rank.Rank(x.g)
		k, f := rank.Kernel(x.g)
		if e != api.OK || f != api.OK || n != len(pivots) || !slices.IsSorted(pivots) || n+len(k) != x.g.Cols || n != x.rank {
			t.Fatal(x.rank, n, pivots, e, len(k), f)
		}
		isKernel(t, x.g, pivots, k)
	}
}

// P11.4: what follows for the rank.
func TestRankKeeps(t *testing.T) {
	r := rand.New(rand.NewSource(14))
	for range 500 {
		few := r.Intn(6)
		g := joined(randomGrid(r, 1+r.Intn(8), few, small), randomGrid(r, few, r.Intn(9), small))
		n, pivots, _ := rank.Rank(g)
		k, _ := rank.Kernel(g)
		if n+len(k) != g.Cols || n > g.Rows || n > few {
			t.Fatal(g, n, len(k))
		}
		changed := grid(g.Rows, g.Cols, slices.Clone(g.Data)...)
		a, b := r.Intn(g.Rows), r.Intn(g.Rows)
		for j := range g.Cols {
			x, y := a*g.Cols+j, b*g.Cols+j
			changed.Data[x], changed.Data[y] = changed.Data[y], changed.Data[x]
		}
		if m, l, e := rank.Rank(changed); m != n || !slices.Equal(l, pivots) || e != api.OK {
			t.Fatal("rows changed places:", g, changed, m, l)
		}
		if a != b {
			for j := range g.Cols {
				changed.Data[a*g.Cols+j] += changed.Data[b*g.Cols+j]
			}
		}
		if m, l, e := rank.Rank(changed); m != n || !slices.Equal(l, pivots) || e != api.OK {
			t.Fatal("a row added to another one:", g, changed, m, l)
		}
		if l, _ := rank.Kernel(changed); !sameLists(l, k) {
			t.Fatal("the kernel changed:", g, changed, l)
		}
	}
}

// P11.4: a list that is sent to 0 is the combination of Kernel's lists with its numbers at the free columns.
func TestAllThatIsSentToZero(t *testing.T) {
	r := rand.New(rand.NewSource(15))
	for range 200 {
		// The rows are at right angles to list: each has two numbers that take each other off.
		list := make([]int64, 2+r.Intn(6))
		for i := range list {
			list[i] = small(r)
		}
		g := noughts(1+r.Intn(4), len(list))
		for i := range g.Rows {
			a := r.Intn(len(list))
			b := (a + 1 + r.Intn(len(list)-1)) % len(list)
			g.Data[i*g.Cols+a] += list[b]
			g.Data[i*g.Cols+b] -= list[a]
		}
		_, pivots, _ := rank.Rank(g)
		k, _ := rank.Kernel(g)
		isKernel(t, g, pivots, k)
		sum := make([]*big.Rat, len(list))
		for j := range sum {
			sum[j] = new(big.Rat)
		}
		next := 0
		for c, n := range list {
			if slices.Contains(pivots, c) {
				continue
			}
			for j := range sum {
				sum[j].Add(sum[j], new(big.Rat).Mul(big.NewRat(n, 1), value(k[next][j])))
			}
			next++
		}
		for j, n := range list {
			if sum[j].Cmp(big.NewRat(n, 1)) != 0 {
				t.Fatal(g, list, k, sum)
			}
		}
	}
}

func system(l ...api.Dyad) api.Dyads {
	n := int(math.Sqrt(float64(len(l))))
	return api.Dyads{Rows: n, Cols: n, Data: l}
}

// ints is a system's matrix of whole numbers.
func ints(l ...int64) api.Dyads {
	var out []api.Dyad
	for _, n := range l {
		out = append(out, dyad.Int(n))
	}
	return system(out...)
}

// at is 2^exp.
func at(exp int) api.Dyad { return api.Dyad{Mag: []uint64{1}, Exp: exp} }

// wide is an odd whole number of so many bits, its first and its last one set alone.
func wide(bits int) api.Dyad {
	v := new(big.Int).Lsh(big.NewInt(1), uint(bits-1))
	return api.Dyad{Mag: limbsOf(v.SetBit(v, 0, 1))}
}

// power is 2^n as limbs.
func power(n int) []uint64 { return append(make([]uint64, n/64), 1<<(n%64)) }

// full has limbs of ones alone.
func full(limbs int) []uint64 { return slices.Repeat([]uint64{ones}, limbs) }

// over is num over den, right or not.
func over(num, den []uint64) api.Ratio { return api.Ratio{Num: num, Den: den} }

// diagonal is a system's matrix with l on its diagonal, else 0.
func diagonal(l ...api.Dyad) api.Dyads {
	a := api.Dyads{Rows: len(l), Cols: len(l), Data: make([]api.Dyad, len(l)*len(l))}
	for i, d := range l {
		a.Data[i*len(l)+i] = d
	}
	return a
}

// solution is what Solve must tell of a system, by fractions.
func solution(a api.Dyads, b []api.Ratio) ([]api.Ratio, api.Errno) {
	n := a.Rows
	rows := make([][]*big.Rat, n)
	for i := range rows {
		for _, d := range a.Data[i*n : (i+1)*n] {
			rows[i] = append(rows[i], valueOfDyad(d))
		}
		rows[i] = append(rows[i], value(b[i]))
	}
	if len(cleared(rows, n)) < n {
		return nil, api.ErrRank
	}
	var out []api.Ratio
	for i := range rows {
		x, e := rightOf(rows[i][n])
		if e != api.OK {
			return nil, e
		}
		out = append(out, x)
	}
	return out, api.OK
}

// isSolved fails unless Solve tells want.
func isSolved(t *testing.T, a api.Dyads, b, want []api.Ratio, wantErr api.Errno) {
	t.Helper()
	if x, e := rank.Solve(a, b); e != wantErr || !sameList(x, want) {
		t.Fatalf("order %d: %v, %v, want %v, %v", a.Rows, x, e, want, wantErr)
	}
}

// P11.3: the chapter's examples, and more by hand.
func TestSolve(t *testing.T) {
	none := api.Dyad{}
	for _, x := range []struct {
		a    api.Dyads
		b    []api.Ratio
		want []api.Ratio
		e    api.Errno
	}{
		{ints(2, 1, 1, 1), fracs(1, 0), fracs(1, -1), api.OK},
		{ints(1, 1, 1, 1), fracs(1, 1), nil, api.ErrRank},
		{ints(1, 1, 1, 1), fracs(1, 2), nil, api.ErrRank},
		{ints(3), []api.Ratio{frac(1, 2)}, []api.Ratio{frac(1, 6)}, api.OK},
		{ints(-3), []api.Ratio{frac(1, 2)}, []api.Ratio{frac(-1, 6)}, api.OK},
		{ints(-3), []api.Ratio{frac(-1, 2)}, []api.Ratio{frac(1, 6)}, api.OK},
		{system(at(-60)), fracs(1), fracs(1 << 60), api.OK},
		{system(at(60)), fracs(1), []api.Ratio{frac(1, 1<<60)}, api.OK},
		{api.Dyads{}, nil, nil, api.OK},
		{api.Dyads{Data: []api.Dyad{}}, []api.Ratio{}, nil, api.OK},
		{diagonal(at(0), at(8000)), fracs(1, 1), nil, api.ErrLong},
		{ints(0), fracs(0), nil, api.ErrRank},
		{ints(0), fracs(1), nil, api.ErrRank},
		{ints(5), fracs(0), fracs(0), api.OK},
		{ints(0, 1, 1, 0), []api.Ratio{frac(4, 1), frac(5, 3)}, []api.Ratio{frac(5, 3), frac(4, 1)}, api.OK},
		{ints(0, 0, 0, 0), fracs(0, 0), nil, api.ErrRank},
		{ints(1, 2, 2, 4), fracs(0, 0), nil, api.ErrRank},
		{ints(0, 1, 0, 2), fracs(1, 2), nil, api.ErrRank},
		{ints(0, 0, 1, 2), fracs(1, 2), nil, api.ErrRank},
		{ints(1, 2, 3, 4), []api.Ratio{frac(1, 2), frac(1, 3)}, []api.Ratio{frac(-2, 3), frac(7, 12)}, api.OK},
		{ints(low, high, high, low), fracs(1, 1), []api.Ratio{frac(-1, 1), frac(-1, 1)}, api.OK},
		{diagonal(at(-65536), at(-65536)), fracs(0, 0), fracs(0, 0), api.OK},
		{system(at(60000), none, none, at(60000)), fracs(0, 0), fracs(0, 0), api.OK},
		{system(at(1), at(0), at(-1), at(0)), fracs(3, 0), fracs(2, -1), api.OK},
	} {
		isSolved(t, x.a, x.b, x.want, x.e)
	}
}

// P11.3: order times width is at most 8192. The width goes from the lowest bit of all to the highest one; noughts have none.
func TestSolveWidth(t *testing.T) {
	none := api.Dyad{}
	for _, x := range []struct {
		a    api.Dyads
		want api.Errno
	}{
		{system(wide(8192)), api.OK},
		{system(wide(8193)), api.ErrLong},
		{diagonal(wide(4096), at(0)), api.OK},
		{diagonal(at(0), wide(4097)), api.ErrLong},
		{diagonal(at(0), at(4095)), api.OK},
		{diagonal(at(4095), at(0)), api.OK},
		{diagonal(at(0), at(4096)), api.ErrLong},
		{diagonal(at(4096), at(0)), api.ErrLong},
		{diagonal(at(-2000), at(2095)), api.OK},
		{diagonal(at(-2000), at(2096)), api.ErrLong},
		{diagonal(at(-2001), at(2095)), api.ErrLong},
		{diagonal(at(5000), at(9095)), api.OK},
		{diagonal(at(5000), at(9096)), api.ErrLong},
		{diagonal(at(-5000), at(-9095)), api.OK},
		{diagonal(at(-5000), at(-9096)), api.ErrLong},
		{diagonal(at(0), at(0), wide(2730)), api.OK},
		{diagonal(at(0), at(0), wide(2731)), api.ErrLong}, // 8193
		{diagonal(at(0), at(2730), at(0)), api.ErrLong},
		{system(none, at(10000), at(10000), none), api.OK},
		{system(none, at(-10000), at(-10000), none), api.OK},
		{system(none, at(65536), at(65536), none), api.OK},
		{diagonal(slices.Repeat([]api.Dyad{wide(170)}, 48)...), api.OK},
		{diagonal(slices.Repeat([]api.Dyad{wide(171)}, 48)...), api.ErrLong},
		{diagonal(slices.Repeat([]api.Dyad{wide(256)}, 32)...), api.OK},
		{diagonal(slices.Repeat([]api.Dyad{wide(257)}, 32)...), api.ErrLong},
		// Ahead of whether there is a solution.
		{system(at(0), at(4095), none, none), api.ErrRank},
		{system(at(0), at(4096), none, none), api.ErrLong},
		{system(none, none, none, none), api.ErrRank},
	} {
		b := fracs(make([]int64, x.a.Rows)...)
		want := b
		if x.want != api.OK {
			want = nil
		}
		isSolved(t, x.a, b, want, x.want)
		for i := range x.a.Data { // signs play no part
			x.a.Data[i].Neg = len(x.a.Data[i].Mag) > 0
		}
		isSolved(t, x.a, b, want, x.want)
	}
}

// P11.3: what is no system is refused, whatever else.
func TestNoSystem(t *testing.T) {
	one := dyad.Int(1)
	for _, a := range []api.Dyads{
		{Rows: 1, Cols: 2, Data: []api.Dyad{one, one}},
		{Rows: 2, Cols: 1, Data: []api.Dyad{one, one}},
		{Rows: 1, Cols: 1},
		{Rows: 1, Cols: 1, Data: []api.Dyad{one, one}},
		{Rows: 0, Cols: 1},
		{Rows: 1, Cols: 0},
		{Rows: 0, Cols: 0, Data: []api.Dyad{one}},
		{Rows: -1, Cols: -1, Data: []api.Dyad{one}},
		{Rows: -1, Cols: -1},
		{Rows: 2, Cols: 2, Data: []api.Dyad{one, one, one}},
		{Rows: 49, Cols: 49, Data: slices.Repeat([]api.Dyad{one}, 49*49)},
		{Rows: 49, Cols: 48, Data: slices.Repeat([]api.Dyad{one}, 49*48)},
		{Rows: 48, Cols: 49, Data: slices.Repeat([]api.Dyad{one}, 48*49)},
		{Rows: math.MaxInt, Cols: math.MaxInt, Data: []api.Dyad{one}},
		{Rows: math.MinInt, Cols: math.MinInt},
		{Rows: 1 << 32, Cols: 1 << 32},
		system(api.Dyad{Mag: []uint64{2}}),
		system(api.Dyad{Mag: []uint64{1, 0}}),
		system(api.Dyad{Mag: []uint64{0}}),
		system(api.Dyad{Neg: true}),
		system(api.Dyad{Exp: 1}),
		system(at(65537)),
		system(at(-65537)),
		system(at(math.MaxInt)),
		system(at(math.MinInt)),
		system(api.Dyad{Mag: full(257)}),
		system(one, one, one, api.Dyad{Mag: []uint64{2}}),
		system(at(0), at(9000), api.Dyad{}, api.Dyad{Exp: 1}), // too wide, too
	} {
		for n := range 51 {
			isSolved(t, a, fracs(make([]int64, n)...), nil, api.ErrShape)
		}
	}
	for _, wrong := range []api.Ratio{
		{}, {Neg: true, Den: []uint64{1}}, {Num: []uint64{1}}, over([]uint64{1}, []uint64{0}), over([]uint64{2}, []uint64{4}), over([]uint64{0}, []uint64{1}),
		over([]uint64{1, 0}, []uint64{1}), over([]uint64{1}, []uint64{1, 0}), over(full(257), []uint64{1}), over([]uint64{1}, full(257)), over([]uint64{3}, full(256)),
	} {
		isSolved(t, ints(1), []api.Ratio{wrong}, nil, api.ErrShape)
		isSolved(t, ints(0), []api.Ratio{wrong}, nil, api.ErrShape)
		isSolved(t, system(wide(8193)), []api.Ratio{wrong}, nil, api.ErrShape)
		isSolved(t, ints(1, 2, 3, 4), []api.Ratio{frac(1, 1), wrong}, nil, api.ErrShape)
		isSolved(t, ints(1, 2, 3, 4), []api.Ratio{wrong, frac(1, 1)}, nil, api.ErrShape)
	}
	for n := range 50 {
		if n != 2 {
			isSolved(t, ints(1, 2, 3, 4), fracs(make([]int64, n)...), nil, api.ErrShape)
		}
		if n != 0 {
			isSolved(t, api.Dyads{}, fracs(make([]int64, n)...), nil, api.ErrShape)
		}
		if n < 48 {
			isSolved(t, diagonal(slices.Repeat([]api.Dyad{one}, 48)...), fracs(make([]int64, n)...), nil, api.ErrShape)
		}
	}
}

// P11.3: answers that have no right ratio, and those that just have one.
func TestSolveLong(t *testing.T) {
	one := dyad.Int(1)
	unit := []uint64{1}
	for _, x := range []struct {
		a    api.Dyads
		b    []api.Ratio
		want []api.Ratio
		e    api.Errno
	}{
		{system(at(65536)), fracs(1), nil, api.ErrLong},
		{system(at(-65536)), fracs(1), nil, api.ErrLong},
		{system(at(16383)), fracs(1), []api.Ratio{over(unit, power(16383))}, api.OK},
		{system(at(16384)), fracs(1), nil, api.ErrLong},
		{system(at(-16383)), fracs(1), []api.Ratio{over(power(16383), unit)}, api.OK},
		{system(at(-16384)), fracs(1), nil, api.ErrLong},
		{system(at(-1)), []api.Ratio{over(power(16382), unit)}, []api.Ratio{over(power(16383), unit)}, api.OK},
		{system(at(-1)), []api.Ratio{over(power(16383), unit)}, nil, api.ErrLong},
		{system(at(1)), []api.Ratio{over(unit, power(16382))}, []api.Ratio{over(unit, power(16383))}, api.OK},
		{system(at(1)), []api.Ratio{over(unit, power(16383))}, nil, api.ErrLong},
		{system(at(16383)), []api.Ratio{over(power(16383), unit)}, fracs(1), api.OK},
		{system(at(32766)), []api.Ratio{over(power(16383), unit)}, []api.Ratio{over(unit, power(16383))}, api.OK},
		{system(at(32767)), []api.Ratio{over(power(16383), unit)}, nil, api.ErrLong},
		// One that is too long among others, at each place.
		{diagonal(one, one, at(1)), []api.Ratio{frac(1, 1), frac(1, 1), over(unit, power(16383))}, nil, api.ErrLong},
		{diagonal(one, at(1), one), []api.Ratio{frac(1, 1), over(unit, power(16383)), frac(1, 1)}, nil, api.ErrLong},
		{diagonal(at(1), one, one), []api.Ratio{over(unit, power(16383)), frac(1, 1), frac(1, 1)}, nil, api.ErrLong},
		// No solution comes ahead of one that is too long.
		{diagonal(at(1), api.Dyad{}), []api.Ratio{over(unit, power(16383)), frac(1, 1)}, nil, api.ErrRank},
		{system(at(65535), at(65536), at(65535), at(65536)), fracs(1, 1), nil, api.ErrRank},
		// 0 is never too long.
		{system(at(65536)), fracs(0), fracs(0), api.OK},
		{system(at(-65536)), fracs(0), fracs(0), api.OK},
	} {
		isSolved(t, x.a, x.b, x.want, x.e)
	}
}

// longFraction is a right ratio of so many limbs below and above.
func longFraction(r *rand.Rand, limbs int) api.Ratio {
	num, den := make([]uint64, limbs), make([]uint64, limbs)
	for i := range limbs {
		num[i], den[i] = r.Uint64(), r.Uint64()
	}
	v := new(big.Rat).SetFrac(wholeOf(num), wholeOf(den))
	if r.Intn(2) == 0 {
		v.Neg(v)
	}
	x, _ := rightOf(v)
	return x
}

// P11.3: long fractions whose divisors are others at each place: what is too long on the way may come to answers that are not.
func TestSolveLongFractions(t *testing.T) {
	r := rand.New(rand.NewSource(16))
	for range 6 {
		x := []api.Ratio{longFraction(r, 64), longFraction(r, 64), longFraction(r, 64)}
		a := ints(1, 2, 3, -1, 5, 4, 7, 1, -8)
		b := sentBy(a, x)
		isSolved(t, a, b, x, api.OK)
		// Two solutions of 128 limbs each, three places of 256.
		y := []api.Ratio{longFraction(r, 128), longFraction(r, 127), frac(small(r), 5)}
		c := ints(1, 1, 0, 1, -1, 0, 0, 0, 1)
		isSolved(t, c, sentBy(c, y), y, api.OK)
		// And the other way: sums of three such have no right ratio.
		long := []api.Ratio{longFraction(r, 256), longFraction(r, 256), longFraction(r, 256)}
		isSolved(t, ints(1, 1, 0, 0, 1, 1, 1, 0, 1), long, nil, api.ErrLong)
		isSolved(t, diagonal(dyad.Int(1), dyad.Int(-1), dyad.Int(1)), long, []api.Ratio{long[0], minus(long[1]), long[2]}, api.OK)
	}
	many := make([]api.Ratio, 16)
	for i := range many {
		many[i] = longFraction(r, 256)
	}
	isSolved(t, diagonal(slices.Repeat([]api.Dyad{dyad.Int(1)}, 16)...), many, many, api.OK)
}

func minus(x api.Ratio) api.Ratio {
	x.Neg = !x.Neg
	return x
}

// sentBy is what a's rows send x to; it must be right.
func sentBy(a api.Dyads, x []api.Ratio) []api.Ratio {
	out := make([]api.Ratio, a.Rows)
	for i := range out {
		sum := new(big.Rat)
		for j := range a.Cols {
			if d := a.Data[i*a.Cols+j]; len(d.Mag) > 0 {
				sum.Add(sum, new(big.Rat).Mul(valueOfDyad(d), value(x[j])))
			}
		}
		out[i], _ = rightOf(sum)
	}
	return out
}

// anyDyad is a right dyad, 0 among them, of a few limbs.
func anyDyad(r *rand.Rand) api.Dyad {
	switch r.Intn(5) {
	case 0:
		return api.Dyad{}
	case 1:
		return dyad.Int(small(r))
	}
	mag := make([]uint64, 1+r.Intn(3))
	for i := range mag {
		mag[i] = r.Uint64() >> r.Intn(64)
	}
	d, _ := dyad.Norm(api.Dyad{Neg: r.Intn(2) == 0, Mag: mag, Exp: r.Intn(200) - 100})
	return d
}

func anyFraction(r *rand.Rand) api.Ratio {
	switch r.Intn(4) {
	case 0:
		return frac(0, 1)
	case 1:
		return frac(small(r), 1)
	case 2:
		return longFraction(r, 1+r.Intn(3))
	}
	return frac(small(r), 1+int64(r.Intn(9)))
}

func manyOf[T any](r *rand.Rand, n int, number func(r *rand.Rand) T) []T {
	out := make([]T, n)
	for i := range out {
		out[i] = number(r)
	}
	return out
}

// P11.3: systems of many orders, as fractions tell them.
func TestSolveByFractions(t *testing.T) {
	r := rand.New(rand.NewSource(17))
	unsolved := 0
	for range 600 {
		n := r.Intn(6)
		b := manyOf(r, n, anyFraction)
		for _, number := range []func(r *rand.Rand) api.Dyad{
			anyDyad,
			func(r *rand.Rand) api.Dyad { return dyad.Int(small(r)) },
			func(r *rand.Rand) api.Dyad { return dyad.Int(int64(r.Intn(3) / 2)) },
		} {
			a := api.Dyads{Rows: n, Cols: n, Data: manyOf(r, n*n, number)}
			want, e := solution(a, b)
			if e == api.ErrRank {
				unsolved++
			}
			isSolved(t, a, b, want, e)
		}
	}
	if unsolved < 100 {
		t.Error("too few without a solution:", unsolved)
	}
}

// P11.3, P11.4: what Solve answers is sent to b, exactly, at the greatest systems too.
func TestGreatSystems(t *testing.T) {
	r := rand.New(rand.NewSource(18))
	broad := func(r *rand.Rand) api.Dyad {
		return api.Dyad{Neg: r.Intn(2) == 0, Mag: []uint64{r.Uint64() | 1, r.Uint64(), 1 << 41}, Exp: -85}
	}
	for _, x := range []struct {
		n      int
		number func(r *rand.Rand) api.Dyad
	}{
		{12, anyDyad}, {20, anyDyad}, {48, func(r *rand.Rand) api.Dyad { return dyad.Int(small(r)) }}, {48, broad},
	} {
		a := api.Dyads{Rows: x.n, Cols: x.n, Data: manyOf(r, x.n*x.n, x.number)}
		b := manyOf(r, x.n, anyFraction)
		l, e := rank.Solve(a, b)
		if e != api.OK || len(l) != x.n || !sameList(sentBy(a, l), b) {
			t.Error(x.n, len(l), e)
		}
		for i := range l {
			if !ratio.Right(l[i]) {
				t.Error("not right:", l[i])
			}
		}
		copy(a.Data[x.n:2*x.n], a.Data[:x.n]) // two rows alike
		isSolved(t, a, b, nil, api.ErrRank)
	}
}

// P11.4: a system whose matrix is above 0 has a solution.
func TestAboveZero(t *testing.T) {
	r := rand.New(rand.NewSource(19))
	for range 100 {
		n := 1 + r.Intn(8)
		// Squares of sums, and each number's own square: above 0, but for noughts alone.
		few := 1 + r.Intn(n)
		m := randomGrid(r, few, n, small)
		a := make([]int64, n*n)
		for i := range n {
			for j := range n {
				for k := range few {
					a[i*n+j] += m.Data[k*n+i] * m.Data[k*n+j]
				}
			}
			a[i*n+i]++
		}
		b := manyOf(r, n, anyFraction)
		x, e := rank.Solve(ints(a...), b)
		if e != api.OK || !sameList(sentBy(ints(a...), x), b) {
			t.Fatal(a, b, x, e)
		}
	}
}

// roomy is l with spare room behind it that holds mark.
func roomy[T any](l []T, mark T) []T {
	out := append(slices.Clone(l), mark, mark, mark)
	return out[:len(l)]
}

// spare is what stands in l's spare room of three.
func spare[T any](l []T) []T { return l[len(l) : len(l)+3] }

// R3: what comes in stays as it was, its spare room too.
func TestListsAreLeft(t *testing.T) {
	r := rand.New(rand.NewSource(20))
	for range 50 {
		g := randomGrid(r, 5, 4, small)
		g.Data = roomy(g.Data, 77)
		was := slices.Clone(g.Data)
		rank.Right(g)
		rank.Rank(g)
		rank.Kernel(g)
		if !slices.Equal(g.Data, was) || !slices.Equal(spare(g.Data), []int64{77, 77, 77}) {
			t.Fatal("changed:", g.Data, was)
		}
		mark := api.Dyad{Mag: []uint64{78}, Exp: 79}
		a := api.Dyads{Rows: 3, Cols: 3, Data: roomy(manyOf(r, 9, anyDyad), mark)}
		b := roomy(manyOf(r, 3, anyFraction), api.Ratio{Num: []uint64{80}})
		limbs, wasLimbs := roomyLimbs(a.Data, b)
		wasA, wasB := slices.Clone(a.Data), slices.Clone(b)
		rank.Solve(a, b)
		for i, l := range limbs {
			if !slices.Equal(l, wasLimbs[i]) || !slices.Equal(spare(l), []uint64{81, 81, 81}) {
				t.Fatal("limbs changed")
			}
		}
		sameDyad := func(a, b api.Dyad) bool { return a.Neg == b.Neg && a.Exp == b.Exp && slices.Equal(a.Mag, b.Mag) }
		if !slices.EqualFunc(a.Data, wasA, sameDyad) || !sameList(b, wasB) || !slices.EqualFunc(spare(a.Data), []api.Dyad{mark, mark, mark}, sameDyad) {
			t.Fatal("changed")
		}
		for _, x := range spare(b) {
			if x.Neg || len(x.Num) != 1 || x.Num[0] != 80 || len(x.Den) != 0 {
				t.Fatal("spare room changed")
			}
		}
	}
}

// roomyLimbs gives all limbs of dyads and ratios spare room, and tells these lists, and what they hold.
func roomyLimbs(dyads []api.Dyad, ratios []api.Ratio) (limbs, was [][]uint64) {
	keep := func(l []uint64) []uint64 {
		l = roomy(l, 81)
		limbs = append(limbs, l)
		was = append(was, slices.Clone(l))
		return l
	}
	for i := range dyads {
		dyads[i].Mag = keep(dyads[i].Mag)
	}
	for i := range ratios {
		ratios[i].Num, ratios[i].Den = keep(ratios[i].Num), keep(ratios[i].Den)
	}
	return limbs, was
}

// R3: lists that share memory among themselves are told as others are.
func TestListsThatShare(t *testing.T) {
	three := []uint64{3, 1}
	a := system(api.Dyad{Mag: three}, api.Dyad{}, api.Dyad{}, api.Dyad{Neg: true, Mag: three, Exp: 5})
	b := []api.Ratio{over(three, []uint64{7}), over([]uint64{7}, three)}
	want, e := solution(a, b)
	isSolved(t, a, b, want, e)
	isSolved(t, a, b, want, e)
	if !slices.Equal(three, []uint64{3, 1}) {
		t.Error("changed:", three)
	}
	data := []int64{1, 2, 3, 4, 5, 6}
	check(t, api.Grid{Rows: 2, Cols: 2, Data: data[:4]})
	check(t, api.Grid{Rows: 2, Cols: 2, Data: data[2:]})
	check(t, api.Grid{Rows: 2, Cols: 2, Data: data[1:5:5]})
	if !slices.Equal(data, []int64{1, 2, 3, 4, 5, 6}) {
		t.Error("changed:", data)
	}
}

// apart fails if two of the lists share memory, their spare room with them: each is filled with a number of its own.
func apart(t *testing.T, lists [][]api.Ratio, more ...[]uint64) {
	t.Helper()
	limbs := slices.Clone(more)
	for _, l := range lists {
		for _, x := range l {
			limbs = append(limbs, x.Num, x.Den)
		}
	}
	for i, l := range limbs {
		for k := range l[:cap(l)] {
			l[:cap(l)][k] = uint64(i)
		}
	}
	for i, l := range limbs {
		for _, x := range l[:cap(l)] {
			if x != uint64(i) {
				t.Fatal("limbs share memory")
			}
		}
	}
	for i, l := range lists {
		for k := range l[:cap(l)] {
			l[:cap(l)][k] = api.Ratio{Num: []uint64{uint64(i)}}
		}
	}
	for i, l := range lists {
		for _, x := range l[:cap(l)] {
			if x.Num[0] != uint64(i) {
				t.Fatal("lists share memory")
			}
		}
	}
}

// R3, R4: what goes out is new each time, and no two lists of it share memory.
func TestAnswersAreNew(t *testing.T) {
	g := grid(3, 6, 1, 2, 0, 3, 5, 1, 0, 0, 1, 4, 1, 1, 1, 2, 1, 7, 6, 2)
	want, _ := rank.Kernel(g)
	first, _ := rank.Kernel(g)
	second, _ := rank.Kernel(g)
	apart(t, append(first, second...))
	if third, _ := rank.Kernel(g); !sameLists(third, want) {
		t.Error("Kernel changed:", third)
	}
	_, l, _ := rank.Rank(g)
	for i := range l[:cap(l)] {
		l[:cap(l)][i] = 9
	}
	if _, m, _ := rank.Rank(g); !slices.Equal(m, []int{0, 2}) {
		t.Error("Rank changed:", m)
	}
	a, b := ints(1, 0, 0, 2, 1, 0, 3, 4, 1), []api.Ratio{frac(1, 3), frac(0, 1), frac(5, 1)}
	var given [][]uint64
	for i := range a.Data {
		given = append(given, a.Data[i].Mag)
	}
	for i := range b {
		given = append(given, b[i].Num, b[i].Den)
	}
	x, _ := rank.Solve(a, b)
	y, _ := rank.Solve(a, b)
	apart(t, [][]api.Ratio{x, y}, given...)
}
