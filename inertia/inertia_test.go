package inertia_test

import (
	"math"
	"math/big"
	"math/rand"
	"slices"
	"testing"

	"girder/api"
	"girder/dyad"
	"girder/inertia"
)

const (
	most = api.MaxOrder
	ones = math.MaxUint64
)

func square(n int, l ...api.Dyad) api.Dyads { return api.Dyads{Rows: n, Cols: n, Data: l} }

func dyads(l ...int64) []api.Dyad {
	var out []api.Dyad
	for _, n := range l {
		out = append(out, dyad.Int(n))
	}
	return out
}

// ints is the matrix of whole numbers with n rows.
func ints(n int, l ...int64) api.Dyads { return square(n, dyads(l...)...) }

// noughts is a matrix of noughts alone.
func noughts(rows, cols int) api.Dyads {
	return api.Dyads{Rows: rows, Cols: cols, Data: make([]api.Dyad, rows*cols)}
}

// filled is the symmetric matrix whose entries not above the diagonal are told.
func filled(n int, entry func(i, j int) api.Dyad) api.Dyads {
	m := noughts(n, n)
	for i := range n {
		for j := range i + 1 {
			m.Data[i*n+j] = entry(i, j)
			m.Data[j*n+i] = m.Data[i*n+j]
		}
	}
	return m
}

// diagonal has l on its diagonal, else 0.
func diagonal(l ...api.Dyad) api.Dyads {
	return filled(len(l), func(i, j int) api.Dyad {
		if i == j {
			return l[i]
		}
		return api.Dyad{}
	})
}

// at is 2^exp, right or not.
func at(exp int) api.Dyad { return api.Dyad{Mag: []uint64{1}, Exp: exp} }

// wide is an odd whole number of so many bits, its first and its last one set alone.
func wide(bits int) api.Dyad {
	v := new(big.Int).Lsh(big.NewInt(1), uint(bits-1))
	return dyadOf(v.SetBit(v, 0, 1), 0)
}

// dyadOf is v times 2^exp as a right dyad, by math/big alone.
func dyadOf(v *big.Int, exp int) api.Dyad {
	if v.Sign() == 0 {
		return api.Dyad{}
	}
	zeros := int(v.TrailingZeroBits())
	d := api.Dyad{Neg: v.Sign() < 0, Exp: exp + zeros}
	for rest := new(big.Int).Rsh(new(big.Int).Abs(v), uint(zeros)); rest.Sign() != 0; rest.Rsh(rest, 64) {
		d.Mag = append(d.Mag, new(big.Int).And(rest, new(big.Int).SetUint64(ones)).Uint64())
	}
	return d
}

// scaledBy is the value of d times 2^-low, which must be whole.
func scaledBy(d api.Dyad, low int) *big.Int {
	v := new(big.Int)
	for _, limb := range slices.Backward(d.Mag) {
		v.Lsh(v, 64).Or(v, new(big.Int).SetUint64(limb))
	}
	if d.Neg {
		v.Neg(v)
	}
	if len(d.Mag) == 0 {
		return v
	}
	return v.Lsh(v, uint(d.Exp-low))
}

// lowest is the least Exp of what is not 0.
func lowest(l []api.Dyad) int {
	low := math.MaxInt
	for _, d := range l {
		if len(d.Mag) > 0 {
			low = min(low, d.Exp)
		}
	}
	return low
}

func same(a, b api.Dyad) bool {
	return a.Neg == b.Neg && a.Exp == b.Exp && slices.Equal(a.Mag, b.Mag)
}

func sameList(a, b []api.Dyad) bool { return slices.EqualFunc(a, b, same) }

// lessened is m less x on its diagonal; both are such that it is made of right dyads.
func lessened(m api.Dyads, x api.Dyad) api.Dyads {
	m.Data = slices.Clone(m.Data)
	for i := range m.Rows {
		d, e := dyad.Sub(m.Data[i*m.Cols+i], x)
		if e != api.OK {
			panic("no right dyad")
		}
		m.Data[i*m.Cols+i] = d
	}
	return m
}

// times is m times x.
func times(m api.Dyads, x api.Dyad) api.Dyads {
	m.Data = slices.Clone(m.Data)
	for k := range m.Data {
		d, e := dyad.Mul(m.Data[k], x)
		if e != api.OK {
			panic("no right dyad")
		}
		m.Data[k] = d
	}
	return m
}

// shuffled is m with its rows, and its columns alike, in another order.
func shuffled(r *rand.Rand, m api.Dyads) api.Dyads {
	to := r.Perm(m.Rows)
	return filled(m.Rows, func(i, j int) api.Dyad { return m.Data[to[i]*m.Cols+to[j]] })
}

// leverrier is what Poly must tell of m, by the way of Faddeev and Le Verrier; its numbers must have right dyads.
func leverrier(m api.Dyads) []api.Dyad {
	n, low := m.Rows, lowest(m.Data)
	if low == math.MaxInt {
		low = 0
	}
	a := func(i, j int) *big.Int { return scaledBy(m.Data[i*n+j], low) }
	told := make([]api.Dyad, n+1)
	c := big.NewInt(1)
	told[n] = dyadOf(c, 0)
	power := make([]*big.Int, n*n)
	for k := range power {
		power[k] = new(big.Int)
	}
	for k := 1; k <= n; k++ {
		for i := range n {
			power[i*n+i].Add(power[i*n+i], c)
		}
		next := make([]*big.Int, n*n)
		trace := new(big.Int)
		for i := range n {
			for j := range n {
				sum := new(big.Int)
				for l := range n {
					sum.Add(sum, new(big.Int).Mul(a(i, l), power[l*n+j]))
				}
				next[i*n+j] = sum
			}
			trace.Add(trace, next[i*n+i])
		}
		c = new(big.Int).Quo(trace.Neg(trace), big.NewInt(int64(k)))
		told[n-k] = dyadOf(c, k*low)
		power = next
	}
	return told
}

// descartes is how many roots of a polynomial, all of them real, are below, at and above 0.
func descartes(l []api.Dyad) api.Signs {
	var told api.Signs
	for told.At = 0; len(l[told.At].Mag) == 0; told.At++ {
	}
	neg := l[told.At].Neg
	for _, d := range l[told.At:] {
		if len(d.Mag) > 0 && d.Neg != neg {
			told.Above++
			neg = d.Neg
		}
	}
	told.Below = len(l) - 1 - told.At - told.Above
	return told
}

// has fails unless Signs of m tells want.
func has(t *testing.T, m api.Dyads, want api.Signs, wantErr api.Errno) {
	t.Helper()
	if s, e := inertia.Signs(m); s != want || e != wantErr {
		t.Fatalf("Signs of %d rows: %v, %v, want %v, %v", m.Rows, s, e, want, wantErr)
	}
}

// below fails unless Below of m and x tells want.
func below(t *testing.T, m api.Dyads, x api.Dyad, want int, wantErr api.Errno) {
	t.Helper()
	if n, e := inertia.Below(m, x); n != want || e != wantErr {
		t.Fatalf("Below of %d rows: %v, %v, want %v, %v", m.Rows, n, e, want, wantErr)
	}
}

// comesTo fails unless Poly of m tells want.
func comesTo(t *testing.T, m api.Dyads, want []api.Dyad, wantErr api.Errno) {
	t.Helper()
	if l, e := inertia.Poly(m); !sameList(l, want) || e != wantErr {
		t.Fatalf("Poly of %d rows: %v, %v, want %v, %v", m.Rows, l, e, want, wantErr)
	}
}

// check fails unless all that is told of m, and of m less x, is as its polynomial tells it.
func check(t *testing.T, m api.Dyads, x api.Dyad) {
	t.Helper()
	poly := leverrier(m)
	comesTo(t, m, poly, api.OK)
	has(t, m, descartes(poly), api.OK)
	less := lessened(m, x)
	want := descartes(leverrier(less))
	has(t, less, want, api.OK)
	below(t, m, x, want.Below, api.OK)
}

// wrong are matrices that are not right, in each way.
func wrong() []api.Dyads {
	one := dyad.Int(1)
	list := []api.Dyads{
		{Rows: 1, Cols: 1},
		{Rows: 1, Cols: 1, Data: dyads(1, 1)},
		{Rows: 2, Cols: 2, Data: dyads(1, 1, 1)},
		{Rows: 2, Cols: 2, Data: dyads(1, 1, 1, 1, 1)},
		{Rows: 1, Cols: 2, Data: dyads(1)},
		{Rows: 1, Cols: 2, Data: dyads(1, 1, 1)},
		{Data: dyads(1)},
		{Rows: 0, Cols: 2, Data: dyads(1, 1)},
		{Rows: 2, Cols: 0, Data: dyads(1, 1)},
		{Rows: -1, Cols: -1},
		{Rows: -1, Cols: -1, Data: dyads(1)},
		{Rows: -2, Cols: -2, Data: dyads(1, 1, 1, 1)},
		{Rows: -1, Cols: 0},
		{Rows: 0, Cols: -1},
		{Rows: -1, Cols: 1},
		{Rows: 1, Cols: -1, Data: dyads(1)},
		noughts(most+1, most+1),
		noughts(most+1, most),
		noughts(most, most+1),
		noughts(most+1, 0),
		noughts(0, most+1),
		noughts(1, most+1),
		{Rows: most, Cols: most, Data: make([]api.Dyad, most*most-1)},
		{Rows: most, Cols: most, Data: make([]api.Dyad, most*most+1)},
		{Rows: math.MaxInt, Cols: math.MaxInt, Data: dyads(1)},
		{Rows: math.MaxInt, Cols: 0},
		{Rows: math.MinInt, Cols: math.MinInt},
		{Rows: 1 << 32, Cols: 1 << 32},
		{Rows: 1 << 62, Cols: 4},
	}
	for _, d := range notRight() {
		list = append(list, square(1, d), square(2, one, one, one, d), square(2, d, one, one, one), square(2, one, d, d, one))
		last := noughts(most, most)
		last.Data[most*most-1] = d
		list = append(list, last)
	}
	return list
}

// notRight are dyads that are not right, in each way.
func notRight() []api.Dyad {
	return []api.Dyad{
		{Mag: []uint64{2}},
		{Mag: []uint64{1, 0}},
		{Mag: []uint64{0}},
		{Mag: []uint64{0, 1}},
		{Neg: true},
		{Exp: 1},
		{Exp: -1},
		at(65537),
		at(-65537),
		at(math.MaxInt),
		at(math.MinInt),
		{Mag: slices.Repeat([]uint64{ones}, api.MaxLimbs+1)},
	}
}

// P16.1: which matrices are right, and which of these are symmetric.
func TestRight(t *testing.T) {
	for _, rows := range []int{0, 1, 2, 47, 48} {
		for _, cols := range []int{0, 1, 2, 47, 48} {
			m := noughts(rows, cols)
			if !inertia.Right(m) || inertia.Symmetric(m) != (rows == cols) {
				t.Error("noughts:", rows, cols, inertia.Right(m), inertia.Symmetric(m))
			}
			for k := range m.Data { // all numbers unlike
				m.Data[k] = api.Dyad{Neg: k%2 == 1, Mag: []uint64{uint64(2*k + 1)}, Exp: k - 1000}
			}
			if !inertia.Right(m) || inertia.Symmetric(m) != (rows == cols && rows < 2) {
				t.Error("unlike:", rows, cols, inertia.Right(m), inertia.Symmetric(m))
			}
		}
	}
	for _, m := range wrong() {
		if inertia.Right(m) || inertia.Symmetric(m) {
			t.Error(m.Rows, m.Cols, len(m.Data), inertia.Right(m), inertia.Symmetric(m))
		}
	}
	for _, d := range []api.Dyad{at(65536), at(-65536), {Neg: true, Mag: slices.Repeat([]uint64{ones}, api.MaxLimbs), Exp: 65536}, {Mag: []uint64{}}} {
		if m := square(2, d, d, d, d); !inertia.Right(m) || !inertia.Symmetric(m) {
			t.Error("not right:", d)
		}
	}
	if !inertia.Symmetric(square(2, dyad.Int(1), api.Dyad{Mag: []uint64{}}, api.Dyad{}, dyad.Int(1))) {
		t.Error("an empty list and none are not the same")
	}
}

// P16.1: one entry that is not the same number on both sides, at each place and by each part.
func TestNotSymmetric(t *testing.T) {
	long := api.Dyad{Mag: []uint64{1, 2, 3}, Exp: 7}
	unlike := [][2]api.Dyad{
		{dyad.Int(1), {}},
		{dyad.Int(1), dyad.Int(-1)},
		{dyad.Int(1), dyad.Int(2)},
		{dyad.Int(3), dyad.Int(5)},
		{at(65536), at(65535)},
		{long, {Mag: []uint64{1, 2, 5}, Exp: 7}},
		{long, {Mag: []uint64{3, 2, 3}, Exp: 7}},
		{long, {Mag: []uint64{1, 2}, Exp: 7}},
		{long, {Neg: true, Mag: []uint64{1, 2, 3}, Exp: 7}},
	}
	r := rand.New(rand.NewSource(1))
	for _, n := range []int{2, 3, 7, most} {
		m := filled(n, func(i, j int) api.Dyad { return dyad.Int(int64(r.Intn(9) - 4)) })
		for i := range n {
			for j := range i {
				x := unlike[r.Intn(len(unlike))]
				one, other := i*n+j, j*n+i
				was := m.Data[one]
				m.Data[one], m.Data[other] = x[0], x[1]
				if !inertia.Right(m) || inertia.Symmetric(m) {
					t.Fatal(n, i, j, x)
				}
				m.Data[other] = x[0]
				if !inertia.Symmetric(m) {
					t.Fatal("not symmetric:", n, i, j, x)
				}
				m.Data[one], m.Data[other] = was, was
			}
		}
	}
	for _, x := range unlike {
		for _, m := range []api.Dyads{square(2, dyad.Int(1), x[0], x[1], dyad.Int(1)), square(2, dyad.Int(1), x[1], x[0], dyad.Int(1))} {
			has(t, m, api.Signs{}, api.ErrShape)
			below(t, m, dyad.Int(0), 0, api.ErrShape)
			comesTo(t, m, nil, api.ErrShape)
		}
	}
}

// P16.2 to P16.4: what is not symmetric is refused with zeros, ahead of all else: x that is not right, a matrix too wide.
func TestWrongShapes(t *testing.T) {
	list := append(wrong(), ints(2, 1, 2, 3, 4), square(2, at(0), at(9000), api.Dyad{}, at(0)), square(2, at(65536), at(-65536), at(0), at(0)))
	for _, x := range [][2]int{{1, 2}, {2, 1}, {0, 1}, {1, 0}, {47, 48}, {48, 47}} {
		list = append(list, noughts(x[0], x[1]))
	}
	for _, m := range list {
		has(t, m, api.Signs{}, api.ErrShape)
		comesTo(t, m, nil, api.ErrShape)
		below(t, m, dyad.Int(0), 0, api.ErrShape)
		below(t, m, api.Dyad{Exp: 1}, 0, api.ErrShape)
	}
}

// P16.3: x that is not right comes ahead of a matrix that is too wide.
func TestWrongX(t *testing.T) {
	for _, x := range notRight() {
		for _, m := range []api.Dyads{{}, ints(1, 5), noughts(48, 48), square(1, wide(8193)), diagonal(at(65536), at(-65536))} {
			below(t, m, x, 0, api.ErrArg)
		}
	}
}

// P16.2 to P16.4: the chapter's examples, and more by hand.
func TestByHand(t *testing.T) {
	none := api.Dyad{}
	for _, x := range []struct {
		m    api.Dyads
		want api.Signs
		poly []api.Dyad
	}{
		{ints(2, 1, 2, 2, 1), api.Signs{Below: 1, Above: 1}, dyads(-3, -2, 1)},
		{ints(2, 0, 1, 1, 0), api.Signs{Below: 1, Above: 1}, dyads(-1, 0, 1)},
		{ints(2, 0, 0, 0, 0), api.Signs{At: 2}, dyads(0, 0, 1)},
		{ints(2, 1, 1, 1, 1), api.Signs{At: 1, Above: 1}, dyads(0, -2, 1)},
		{api.Dyads{}, api.Signs{}, dyads(1)},
		{api.Dyads{Data: []api.Dyad{}}, api.Signs{}, dyads(1)},
		{ints(1, 0), api.Signs{At: 1}, dyads(0, 1)},
		{ints(1, 7), api.Signs{Above: 1}, dyads(-7, 1)},
		{ints(1, -7), api.Signs{Below: 1}, dyads(7, 1)},
		{ints(2, -1, -1, -1, -1), api.Signs{Below: 1, At: 1}, dyads(0, 2, 1)},
		{ints(2, 0, -1, -1, 0), api.Signs{Below: 1, Above: 1}, dyads(-1, 0, 1)},
		{ints(2, 0, 1, 1, 5), api.Signs{Below: 1, Above: 1}, dyads(-1, -5, 1)},
		{ints(2, 5, 1, 1, 0), api.Signs{Below: 1, Above: 1}, dyads(-1, -5, 1)},
		{ints(2, 0, 0, 0, 5), api.Signs{At: 1, Above: 1}, dyads(0, -5, 1)},
		{ints(2, -2, 1, 1, -2), api.Signs{Below: 2}, dyads(3, 4, 1)},
		{ints(2, math.MinInt64, math.MaxInt64, math.MaxInt64, math.MinInt64), api.Signs{Below: 2}, []api.Dyad{dyadOf(new(big.Int).SetUint64(ones), 0), at(64), at(0)}},
		// Diagonals of noughts: -1, -1, 2; 0 and two opposites; two pairs of opposites; one of noughts once two rows are cleared.
		{ints(3, 0, 1, 1, 1, 0, 1, 1, 1, 0), api.Signs{Below: 2, Above: 1}, dyads(-2, -3, 0, 1)},
		{ints(3, 0, 0, 2, 0, 0, 0, 2, 0, 0), api.Signs{Below: 1, At: 1, Above: 1}, dyads(0, -4, 0, 1)},
		{ints(4, 0, 0, 0, 3, 0, 0, -5, 0, 0, -5, 0, 0, 3, 0, 0, 0), api.Signs{Below: 2, Above: 2}, dyads(225, 0, -34, 0, 1)},
		{ints(3, 1, 1, 1, 1, 1, 2, 1, 2, 1), api.Signs{Below: 1, Above: 2}, dyads(1, -3, -3, 1)},
		{square(1, wide(8192)), api.Signs{Above: 1}, []api.Dyad{{Neg: true, Mag: wide(8192).Mag}, at(0)}},
		{square(1, at(60000)), api.Signs{Above: 1}, []api.Dyad{{Neg: true, Mag: []uint64{1}, Exp: 60000}, at(0)}},
		{square(2, at(-2), none, none, at(3)), api.Signs{Above: 2}, []api.Dyad{at(1), {Neg: true, Mag: []uint64{33}, Exp: -2}, at(0)}},
		{square(2, none, at(-7), at(-7), none), api.Signs{Below: 1, Above: 1}, []api.Dyad{{Neg: true, Mag: []uint64{1}, Exp: -14}, none, at(0)}},
	} {
		has(t, x.m, x.want, api.OK)
		comesTo(t, x.m, x.poly, api.OK)
		if x.m.Rows > 1 || x.m.Rows == 0 {
			comesTo(t, x.m, leverrier(x.m), api.OK)
		}
	}
	for x, want := range map[int64]int{-2: 0, -1: 0, 0: 1, 2: 1, 3: 1, 4: 2} {
		below(t, ints(2, 1, 2, 2, 1), dyad.Int(x), want, api.OK)
	}
	below(t, api.Dyads{}, at(65536), 0, api.OK)
}

// P16.2, P16.4: rows times width are at most 8192. The width goes from the lowest bit of all to the highest one; noughts have none.
func TestWidth(t *testing.T) {
	none := api.Dyad{}
	repeated := func(d api.Dyad, n int) api.Dyads { return diagonal(slices.Repeat([]api.Dyad{d}, n)...) }
	for _, x := range []struct {
		m    api.Dyads
		want api.Errno
	}{
		{square(1, wide(8192)), api.OK},
		{square(1, wide(8193)), api.ErrLong},
		{square(1, at(8192)), api.OK},
		{square(1, at(60000)), api.OK},
		{square(1, at(65536)), api.OK},
		{square(1, at(-65536)), api.OK},
		{square(1, api.Dyad{Mag: wide(8192).Mag, Exp: -300}), api.OK},
		{square(1, api.Dyad{Mag: wide(8193).Mag, Exp: -8192}), api.ErrLong},
		{square(1, api.Dyad{Mag: slices.Repeat([]uint64{ones}, api.MaxLimbs)}), api.ErrLong},
		{diagonal(wide(4096), at(0)), api.OK},
		{diagonal(at(0), wide(4097)), api.ErrLong},
		{diagonal(at(0), at(4095)), api.OK},
		{diagonal(at(4095), at(0)), api.OK},
		{diagonal(at(0), at(4096)), api.ErrLong},
		{diagonal(at(4096), at(0)), api.ErrLong},
		{diagonal(at(-2000), at(2095)), api.OK},
		{diagonal(at(-2000), at(2096)), api.ErrLong},
		{diagonal(at(-2001), at(2095)), api.ErrLong},
		{diagonal(at(5000), at(9095)), api.OK},
		{diagonal(at(5000), at(9096)), api.ErrLong},
		{diagonal(at(-5000), at(-9095)), api.OK},
		{diagonal(at(-5000), at(-9096)), api.ErrLong},
		{diagonal(none, at(9000)), api.OK},
		{diagonal(at(-9000), none), api.OK},
		{diagonal(at(0), at(0), wide(2730)), api.OK},
		{diagonal(at(0), at(0), wide(2731)), api.ErrLong}, // 8193
		{diagonal(at(65536), at(-65536)), api.ErrLong},
		{square(2, none, at(4095), at(4095), at(0)), api.OK},
		{square(2, none, at(4096), at(4096), at(0)), api.ErrLong},
		{square(2, at(4096), at(0), at(0), none), api.ErrLong},
		{repeated(wide(170), 48), api.OK},
		{repeated(wide(171), 48), api.ErrLong},
		{repeated(wide(256), 32), api.OK},
		{repeated(wide(257), 32), api.ErrLong},
		{noughts(48, 48), api.OK},
		{api.Dyads{}, api.OK},
	} {
		for range 2 { // signs play no part
			s, e := inertia.Signs(x.m)
			l, f := inertia.Poly(x.m)
			n, g := inertia.Below(x.m, api.Dyad{})
			if e != x.want || f != x.want || g != x.want {
				t.Error(x.m.Rows, e, f, g, x.want)
			}
			if x.want == api.OK && (s.Below+s.At+s.Above != x.m.Rows || len(l) != x.m.Rows+1 || n != s.Below || s != descartes(l)) {
				t.Error(x.m.Rows, s, len(l), n)
			}
			if x.want != api.OK && (s != api.Signs{} || len(l) != 0 || n != 0) {
				t.Error(x.m.Rows, s, len(l), n)
			}
			for k := range x.m.Data {
				x.m.Data[k].Neg = len(x.m.Data[k].Mag) > 0
			}
		}
	}
}

// P16.3: what counts is how wide m is once x is taken off.
func TestWidthBelow(t *testing.T) {
	none := api.Dyad{}
	minus := func(d api.Dyad) api.Dyad { d.Neg = true; return d }
	full := slices.Repeat([]uint64{ones}, api.MaxLimbs)
	for _, x := range []struct {
		m        api.Dyads
		x        api.Dyad
		want     int
		err, was api.Errno // of Below, and of Signs of m
	}{
		// Only once x is taken off.
		{square(1, at(8192)), at(0), 0, api.OK, api.OK}, // 8192 ones
		{square(1, at(8193)), at(0), 0, api.ErrLong, api.OK},
		{square(1, at(8192)), minus(at(0)), 0, api.ErrLong, api.OK},
		{square(1, none), wide(8192), 1, api.OK, api.OK},
		{square(1, none), wide(8193), 0, api.ErrLong, api.OK},
		{square(1, at(0)), at(60000), 0, api.ErrLong, api.OK},
		{square(1, at(65536)), at(-65536), 0, api.ErrLong, api.OK},
		{square(1, at(-65536)), at(65536), 0, api.ErrLong, api.OK},
		{diagonal(at(0), at(0)), at(4096), 2, api.OK, api.OK},
		{diagonal(at(0), at(0)), at(4097), 0, api.ErrLong, api.OK},
		{square(2, none, at(0), at(0), none), at(4095), 2, api.OK, api.OK},
		{square(2, none, at(0), at(0), none), at(4096), 0, api.ErrLong, api.OK},
		{noughts(48, 48), at(65536), 48, api.OK, api.OK},
		{noughts(48, 48), minus(at(-65536)), 0, api.OK, api.OK},
		{noughts(48, 48), wide(170), 48, api.OK, api.OK},
		{noughts(48, 48), wide(171), 0, api.ErrLong, api.OK},
		{square(1, api.Dyad{Mag: full, Exp: 65536}), none, 0, api.ErrLong, api.ErrLong},
		// Only before.
		{square(1, wide(8193)), at(0), 0, api.OK, api.ErrLong},
		{square(1, wide(8193)), at(8192), 0, api.OK, api.ErrLong},
		{square(1, wide(16384)), at(0), 0, api.OK, api.ErrLong},
		{square(1, wide(16384)), wide(16384), 0, api.OK, api.ErrLong},
		{square(1, minus(wide(8193))), minus(at(8192)), 1, api.OK, api.ErrLong},
		{square(1, wide(8193)), minus(at(0)), 0, api.OK, api.ErrLong}, // 2 and 2^8192: 8192 bits
		{square(2, wide(5000), at(0), at(0), wide(5000)), wide(5000), 1, api.OK, api.ErrLong},
		{diagonal(slices.Repeat([]api.Dyad{wide(171)}, 48)...), at(0), 0, api.OK, api.ErrLong},
		{diagonal(slices.Repeat([]api.Dyad{wide(171)}, 48)...), wide(171), 0, api.OK, api.ErrLong},
		// Both.
		{diagonal(wide(5000), at(0)), at(0), 0, api.OK, api.ErrLong},
		{diagonal(wide(5000), wide(5001)), at(0), 0, api.OK, api.ErrLong},
		{diagonal(wide(5000), wide(5001)), dyad.Int(2), 0, api.ErrLong, api.ErrLong},
		// What is left has no right dyad, but is not wide.
		{square(1, api.Dyad{Mag: []uint64{3}, Exp: 65536}), at(65536), 0, api.OK, api.OK},
		{square(1, at(65536)), api.Dyad{Mag: []uint64{3}, Exp: 65536}, 1, api.OK, api.OK},
		{square(1, at(65536)), minus(at(65536)), 0, api.OK, api.OK},
		{square(1, minus(at(65536))), at(65536), 1, api.OK, api.OK},
		{square(1, api.Dyad{Mag: full, Exp: 65536}), minus(at(65536)), 0, api.OK, api.ErrLong}, // 2^81920
		{diagonal(at(65536), api.Dyad{Mag: []uint64{5}, Exp: 65536}), api.Dyad{Mag: []uint64{3}, Exp: 65536}, 1, api.OK, api.OK},
		{square(2, at(65536), at(65536), at(65536), at(65536)), minus(at(65536)), 0, api.OK, api.OK},
		{square(2, minus(at(65536)), at(65536), at(65536), minus(at(65536))), at(65536), 2, api.OK, api.OK},
	} {
		below(t, x.m, x.x, x.want, x.err)
		if s, e := inertia.Signs(x.m); e != x.was {
			t.Error(x.m.Rows, s, e, x.was)
		}
	}
}

// P16.4: coefficients that have no right dyad, and those that just have one.
func TestPolyLong(t *testing.T) {
	none := api.Dyad{}
	minus := func(d api.Dyad) api.Dyad { d.Neg = true; return d }
	for _, x := range []struct {
		m    api.Dyads
		want []api.Dyad
	}{
		{diagonal(at(-60000), at(-60000)), nil},
		{diagonal(at(60000), at(60000)), nil},
		{diagonal(at(-32768), at(-32768)), []api.Dyad{at(-65536), minus(at(-32767)), at(0)}},
		{diagonal(at(-32769), at(-32768)), nil},
		{diagonal(at(32768), at(32768)), []api.Dyad{at(65536), minus(at(32769)), at(0)}},
		{diagonal(at(32769), at(32768)), nil},
		{square(2, none, at(-32768), at(-32768), none), []api.Dyad{minus(at(-65536)), none, at(0)}},
		{square(2, none, at(-32769), at(-32769), none), nil},
		{square(1, at(65536)), []api.Dyad{minus(at(65536)), at(0)}},
		{square(1, at(-65536)), []api.Dyad{minus(at(-65536)), at(0)}},
		// 0 is never too long: a rank of 1, and of 0.
		{square(2, at(65535), at(65535), at(65535), at(65535)), []api.Dyad{none, minus(at(65536)), at(0)}},
		{square(2, at(-65536), at(-65536), at(-65536), at(-65536)), []api.Dyad{none, minus(at(-65535)), at(0)}},
		{square(2, at(65536), at(65536), at(65536), at(65536)), nil}, // twice 2^65536
		{diagonal(at(65536), none, none), []api.Dyad{none, none, minus(at(65536)), at(0)}},
		// Too long in between alone: twice 2^65536 is, 3 * 2^65536 is not.
		{diagonal(at(65536), at(65536), none), nil},
		{diagonal(at(32768), at(32768), none), []api.Dyad{none, at(65536), minus(at(32769)), at(0)}},
	} {
		wantErr := api.OK
		if x.want == nil {
			wantErr = api.ErrLong
		}
		comesTo(t, x.m, x.want, wantErr)
		if s, e := inertia.Signs(x.m); e != api.OK || s.Below+s.At+s.Above != x.m.Rows { // no limit of Signs
			t.Error(x.m.Rows, s, e)
		}
	}
	has(t, diagonal(at(-60000), at(-60000)), api.Signs{Above: 2}, api.OK)
	deep := diagonal(slices.Repeat([]api.Dyad{at(-65536)}, 48)...)
	has(t, deep, api.Signs{Above: 48}, api.OK)
	comesTo(t, deep, nil, api.ErrLong)
}

func small(r *rand.Rand) api.Dyad { return dyad.Int(int64(r.Intn(5) - 2)) }

func anyDyad(r *rand.Rand) api.Dyad {
	switch r.Intn(6) {
	case 0:
		return api.Dyad{}
	case 1:
		return small(r)
	}
	mag := make([]uint64, 1+r.Intn(3))
	for i := range mag {
		mag[i] = []uint64{0, 1, ones, r.Uint64()}[r.Intn(4)]
	}
	d, _ := dyad.Norm(api.Dyad{Neg: r.Intn(2) == 0, Mag: mag, Exp: r.Intn(200) - 100})
	return d
}

// P16.2 to P16.4: matrices of many orders, as another way to the polynomial tells them: few numbers, so that noughts and ranks below the order turn up, and all.
func TestByPolynomials(t *testing.T) {
	r := rand.New(rand.NewSource(2))
	random := func(n int, number func(r *rand.Rand) api.Dyad) api.Dyads {
		return filled(n, func(i, j int) api.Dyad { return number(r) })
	}
	for range 1500 {
		n := r.Intn(8)
		check(t, random(n, small), small(r))
		check(t, random(n, anyDyad), anyDyad(r))
		hollow := filled(n, func(i, j int) api.Dyad {
			if i == j || r.Intn(3) == 0 {
				return api.Dyad{}
			}
			return small(r)
		})
		check(t, hollow, small(r))
		check(t, lowRank(r, n, r.Intn(4)), small(r))
	}
	for _, n := range []int{12, 15, 20} {
		check(t, random(n, small), small(r))
		check(t, random(n, anyDyad), anyDyad(r))
		check(t, lowRank(r, n, 6), small(r))
	}
}

// lowRank is a matrix of n rows whose rank is few at most: rows times themselves, with either sign.
func lowRank(r *rand.Rand, n, few int) api.Dyads {
	sums := make([]int64, n*n)
	for range few {
		sign := int64(1 - 2*r.Intn(2))
		row := make([]int64, n)
		for i := range row {
			row[i] = int64(r.Intn(5) - 2)
		}
		for i := range n {
			for j := range n {
				sums[i*n+j] += sign * row[i] * row[j]
			}
		}
	}
	return ints(n, sums...)
}

// mirror is a matrix with the eigenvalues told, each times the square of (v v): v's mirror on both sides of their diagonal.
func mirror(v []int64, eigenvalues []int64) (m api.Dyads, by int64) {
	n := len(v)
	for _, x := range v {
		by += x * x
	}
	q := func(i, j int) int64 {
		if i == j {
			return by - 2*v[i]*v[j]
		}
		return -2 * v[i] * v[j]
	}
	m = filled(n, func(i, j int) api.Dyad {
		sum := int64(0)
		for k := range n {
			sum += q(i, k) * eigenvalues[k] * q(j, k)
		}
		return dyad.Int(sum)
	})
	return m, by * by
}

// P16.2, P16.3: eigenvalues that are known, x itself among them, and many alike; all orders up to the greatest.
func TestKnownEigenvalues(t *testing.T) {
	r := rand.New(rand.NewSource(3))
	for _, n := range []int{1, 2, 3, 5, 8, 13, 21, 34, 47, 48} {
		v, values := make([]int64, n), make([]int64, n)
		v[0] = 1
		for i := range n {
			v[i] += int64(r.Intn(7) - 3)
			values[i] = int64(r.Intn(7) - 3)
		}
		m, by := mirror(v, values)
		if by == 0 {
			v[0] = 2
			m, by = mirror(v, values)
		}
		var want api.Signs
		for _, x := range values {
			switch {
			case x < 0:
				want.Below++
			case x > 0:
				want.Above++
			default:
				want.At++
			}
		}
		has(t, m, want, api.OK)
		for x := int64(-4); x <= 4; x++ {
			count := func(less func(value int64) bool) int {
				n := 0
				for _, value := range values {
					if less(value) {
						n++
					}
				}
				return n
			}
			ahead := count(func(value int64) bool { return value < x })
			with := count(func(value int64) bool { return value <= x })
			there := dyad.Int(x * by)
			justAbove, _ := dyad.Add(there, at(-60))
			justBelow, _ := dyad.Sub(there, at(-60))
			below(t, m, there, ahead, api.OK)
			below(t, m, justBelow, ahead, api.OK)
			below(t, m, justAbove, with, api.OK)
			has(t, lessened(m, there), api.Signs{Below: ahead, At: with - ahead, Above: n - with}, api.OK)
		}
	}
	below(t, diagonal(slices.Repeat(dyads(5), 48)...), dyad.Int(5), 0, api.OK)
	has(t, lessened(diagonal(slices.Repeat(dyads(5), 48)...), dyad.Int(5)), api.Signs{At: 48}, api.OK)
	below(t, diagonal(slices.Repeat(dyads(5), 48)...), dyad.Int(6), 48, api.OK)
}

// randomWide is a matrix of numbers of so many bits, full ones among them.
func randomWide(r *rand.Rand, n, bits int) api.Dyads {
	return filled(n, func(i, j int) api.Dyad {
		v := new(big.Int).Rand(r, new(big.Int).Lsh(big.NewInt(1), uint(bits)))
		if r.Intn(8) == 0 {
			v.Sub(new(big.Int).Lsh(big.NewInt(1), uint(bits)), big.NewInt(1))
		}
		if r.Intn(2) == 0 {
			v.Neg(v)
		}
		return dyadOf(v, 0)
	})
}

const prime = 1<<61 - 1

// modulo is the value of d, a whole number, modulo prime.
func modulo(d api.Dyad) *big.Int {
	v := scaledBy(d, 0)
	return v.Mod(v, big.NewInt(prime))
}

// determinant is that of (x less m) modulo prime.
func determinant(m api.Dyads, x int64) *big.Int {
	n, p := m.Rows, big.NewInt(prime)
	a := make([][]*big.Int, n)
	for i := range a {
		for j := range n {
			v := modulo(m.Data[i*n+j])
			v.Neg(v)
			if i == j {
				v.Add(v, big.NewInt(x))
			}
			a[i] = append(a[i], v.Mod(v, p))
		}
	}
	product := big.NewInt(1)
	for c := range n {
		found := slices.IndexFunc(a[c:], func(row []*big.Int) bool { return row[c].Sign() != 0 })
		if found < 0 {
			return new(big.Int)
		}
		if found > 0 {
			a[c], a[c+found] = a[c+found], a[c]
			product.Neg(product)
		}
		product.Mul(product, a[c][c]).Mod(product, p)
		inverse := new(big.Int).ModInverse(a[c][c], p)
		for i := c + 1; i < n; i++ {
			by := new(big.Int).Mul(a[i][c], inverse)
			by.Mod(by, p)
			for j := c; j < n; j++ {
				a[i][j].Sub(a[i][j], new(big.Int).Mul(by, a[c][j])).Mod(a[i][j], p)
			}
		}
	}
	return product
}

// P16.2 to P16.5: the greatest matrices, of the widest numbers: the polynomial is that of determinants modulo a prime, and has as many roots on either side as Signs tells.
func TestGreatMatrices(t *testing.T) {
	r := rand.New(rand.NewSource(4))
	for _, x := range []struct{ n, bits int }{{48, 170}, {47, 174}, {32, 256}, {8, 1024}, {3, 2730}, {2, 4096}, {1, 8192}} {
		m := randomWide(r, x.n, x.bits)
		poly, e := inertia.Poly(m)
		if e != api.OK || len(poly) != x.n+1 || !same(poly[x.n], at(0)) {
			t.Fatal(x, len(poly), e)
		}
		for _, d := range poly {
			if !dyad.Right(d) {
				t.Fatal("not right:", x, d)
			}
		}
		has(t, m, descartes(poly), api.OK)
		below(t, m, api.Dyad{}, descartes(poly).Below, api.OK)
		for _, at := range []int64{0, 1, -1, 2, 12345678901} {
			sum := new(big.Int)
			for _, d := range slices.Backward(poly) {
				sum.Mul(sum, big.NewInt(at)).Add(sum, modulo(d)).Mod(sum, big.NewInt(prime))
			}
			if want := determinant(m, at); sum.Cmp(want) != 0 {
				t.Fatal(x, "at", at, sum, want)
			}
		}
	}
}

// P16.5: of L times D times L turned over the signs are those of D.
func TestSylvester(t *testing.T) {
	r := rand.New(rand.NewSource(5))
	for _, n := range []int{1, 2, 3, 5, 9, 20, 33, 48} {
		lower, d := make([]*big.Int, n*n), make([]*big.Int, n)
		var want api.Signs
		for i := range n {
			for j := range n {
				lower[i*n+j] = new(big.Int)
				if j < i {
					lower[i*n+j].SetInt64(int64(r.Uint64()) >> 4)
				}
			}
			lower[i*n+i].SetInt64(1)
			d[i] = new(big.Int)
			switch r.Intn(3) {
			case 0:
				want.At++
			case 1:
				want.Below++
				d[i].SetInt64(-1 - int64(r.Intn(1<<20)))
			case 2:
				want.Above++
				d[i].SetInt64(1 + int64(r.Intn(1<<20)))
			}
		}
		m := filled(n, func(i, j int) api.Dyad {
			sum := new(big.Int)
			for k := range j + 1 {
				sum.Add(sum, new(big.Int).Mul(lower[i*n+k], new(big.Int).Mul(d[k], lower[j*n+k])))
			}
			return dyadOf(sum, -40)
		})
		has(t, m, want, api.OK)
		has(t, shuffled(r, m), want, api.OK)
	}
}

// P16.5: what follows: rows and columns in another order, opposites, multiples, m less x, the counts, the polynomial's signs, x that rises.
func TestFollows(t *testing.T) {
	r := rand.New(rand.NewSource(6))
	for range 150 {
		n := r.Intn(9)
		m := filled(n, func(i, j int) api.Dyad {
			if r.Intn(3) == 0 {
				return api.Dyad{}
			}
			return anyDyad(r)
		})
		s, e := inertia.Signs(m)
		if e != api.OK || s.Below+s.At+s.Above != n {
			t.Fatal(m, s, e)
		}
		poly, e := inertia.Poly(m)
		if e != api.OK || descartes(poly) != s {
			t.Fatal(m, poly, s)
		}
		mixed := shuffled(r, m)
		has(t, mixed, s, api.OK)
		comesTo(t, mixed, poly, api.OK)
		turned := api.Signs{Below: s.Above, At: s.At, Above: s.Below}
		has(t, times(m, dyad.Int(-1)), turned, api.OK)
		for _, by := range []api.Dyad{dyad.Int(3), at(-70), at(5), {Mag: []uint64{ones}, Exp: -9}} {
			has(t, times(m, by), s, api.OK)
			by.Neg = true
			has(t, times(m, by), turned, api.OK)
		}
		has(t, times(m, api.Dyad{}), api.Signs{At: n}, api.OK)
		rises(t, r, m)
	}
}

// rises fails unless Below of m does not fall as x rises, and is Signs of m less x.
func rises(t *testing.T, r *rand.Rand, m api.Dyads) {
	t.Helper()
	xs := []api.Dyad{at(400), {Neg: true, Mag: []uint64{1}, Exp: 400}, {}}
	for range 12 {
		xs = append(xs, anyDyad(r))
	}
	slices.SortFunc(xs, func(a, b api.Dyad) int { c, _ := dyad.Cmp(a, b); return c })
	last := 0
	for k, x := range xs {
		s, _ := inertia.Signs(lessened(m, x))
		below(t, m, x, s.Below, api.OK)
		if s.Below < last || k == 0 && s.Below != 0 || k == len(xs)-1 && s.Below != m.Rows {
			t.Fatal(m, x, s, last)
		}
		last = s.Below
	}
}

// roomy is l with three more places behind it, which hold mark.
func roomy[T any](l []T, mark T) []T {
	return append(slices.Clone(l), mark, mark, mark)[: len(l) : len(l)+3]
}

func spare[T any](l []T) []T { return l[len(l) : len(l)+3] }

// R3: what is handed in is left as it was, its spare room too.
func TestListsAreLeft(t *testing.T) {
	r := rand.New(rand.NewSource(7))
	for range 100 {
		n := r.Intn(7)
		m := filled(n, func(i, j int) api.Dyad { return anyDyad(r) })
		mark := api.Dyad{Neg: true, Mag: []uint64{77}, Exp: 77}
		m.Data = roomy(m.Data, mark)
		x := anyDyad(r)
		all := make([]*api.Dyad, 0, n*n+1)
		for k := range m.Data {
			all = append(all, &m.Data[k])
		}
		all = append(all, &x)
		var was []api.Dyad
		for _, d := range all {
			d.Mag = roomy(d.Mag, 99)
			was = append(was, api.Dyad{Neg: d.Neg, Mag: slices.Clone(d.Mag), Exp: d.Exp})
		}
		inertia.Right(m)
		inertia.Symmetric(m)
		inertia.Signs(m)
		inertia.Below(m, x)
		inertia.Poly(m)
		for k, d := range all {
			if !same(*d, was[k]) || !slices.Equal(spare(d.Mag), []uint64{99, 99, 99}) {
				t.Fatal("changed:", k, *d, was[k])
			}
		}
		if !sameList(spare(m.Data), []api.Dyad{mark, mark, mark}) {
			t.Fatal("spare room:", spare(m.Data))
		}
	}
}

// R3: entries, and x, may share their memory.
func TestListsThatShare(t *testing.T) {
	mag := []uint64{5, 7, 9}
	d := api.Dyad{Mag: mag, Exp: -3}
	minus := api.Dyad{Neg: true, Mag: mag, Exp: 4}
	part := api.Dyad{Mag: mag[:2], Exp: 1}
	for _, m := range []api.Dyads{square(2, d, d, d, d), square(2, d, minus, minus, part), square(3, api.Dyad{}, d, part, d, api.Dyad{}, minus, part, minus, api.Dyad{})} {
		for _, x := range []api.Dyad{d, minus, part} {
			check(t, m, x)
		}
	}
	if !slices.Equal(mag, []uint64{5, 7, 9}) {
		t.Error(mag)
	}
}

// R3, R4: what Poly hands out is new, shares no memory, spare room too, and is told again.
func TestAnswersAreNew(t *testing.T) {
	r := rand.New(rand.NewSource(8))
	for range 50 {
		n := r.Intn(6)
		m := filled(n, func(i, j int) api.Dyad { return anyDyad(r) })
		l, _ := inertia.Poly(m)
		var want []api.Dyad
		for _, d := range l {
			want = append(want, api.Dyad{Neg: d.Neg, Mag: slices.Clone(d.Mag), Exp: d.Exp})
		}
		lists := [][]uint64{}
		for _, d := range slices.Concat(l, m.Data) {
			lists = append(lists, d.Mag)
		}
		for k := range l {
			room := lists[k][:cap(lists[k])]
			for i := range room {
				room[i]++
				for other, list := range lists {
					if other != k && len(list) > 0 && &list[:cap(list)][0] == &room[i] {
						t.Fatal("shared memory:", k, other)
					}
				}
			}
		}
		for k := range l[:cap(l)] {
			l[:cap(l)][k] = api.Dyad{Exp: 1}
		}
		comesTo(t, m, want, api.OK)
	}
}
