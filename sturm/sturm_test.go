package sturm_test

import (
	"math"
	"math/big"
	"math/rand"
	"slices"
	"testing"

	"girder/api"
	"girder/bits"
	"girder/dyad"
	"girder/inertia"
	"girder/round"
	"girder/sturm"
)

const (
	most  = 64
	least = 0x1p-1074 // the least float above 0
	entry = 0x1p500   // the greatest size of a chain's numbers
	level = 0x1p502   // the greatest size of x
)

var (
	nan    = math.NaN()
	inf    = math.Inf(1)
	nought = math.Copysign(0, -1)
)

func chain(diag []float64, off ...float64) api.Chain { return api.Chain{Diag: diag, Off: off} }

// made is a chain of n rows with these numbers.
func made(n int, diag, off func(i int) float64) api.Chain {
	c := api.Chain{Diag: make([]float64, n), Off: make([]float64, max(n-1, 0))}
	for i := range c.Diag {
		c.Diag[i] = diag(i)
	}
	for i := range c.Off {
		c.Off[i] = off(i)
	}
	return c
}

// even is a chain of n rows, all of whose rows are alike.
func even(n int, diag, off float64) api.Chain {
	return made(n, func(int) float64 { return diag }, func(int) float64 { return off })
}

func copied(c api.Chain) api.Chain {
	return api.Chain{Diag: slices.Clone(c.Diag), Off: slices.Clone(c.Off)}
}

func up(x float64) float64   { return math.Nextafter(x, inf) }
func down(x float64) float64 { return math.Nextafter(x, -inf) }

func same(a, b float64) bool { return math.Float64bits(a) == math.Float64bits(b) }

func sameList(a, b []float64) bool { return slices.EqualFunc(a, b, same) }

// inFloats is what Count must tell of a right chain: each operation by package round, each d kept.
func inFloats(c api.Chain, x float64) int {
	d := []float64{}
	for i := range c.Diag {
		next := round.Sub(c.Diag[i], x, api.Nearest)
		if i > 0 {
			square := round.Mul(c.Off[i-1], c.Off[i-1], api.Nearest)
			next = round.Sub(next, round.Div(square, d[i-1], api.Nearest), api.Nearest)
		}
		if next == 0 {
			next = -least
		}
		d = append(d, next)
	}
	n := 0
	for _, v := range d {
		if v < 0 {
			n++
		}
	}
	return n
}

func rat(x float64) *big.Rat { return new(big.Rat).SetFloat64(x) }

// byPivots is what Exact must tell of a right chain, by exact fractions: pivots one by one, two rows at once where one is 0 and linked.
func byPivots(c api.Chain, x float64) int {
	n := 0
	var d *big.Rat // of the row ahead; none: that row is done with
	for i := range c.Diag {
		next := new(big.Rat).Sub(rat(c.Diag[i]), rat(x))
		if i > 0 && d != nil && c.Off[i-1] != 0 {
			if d.Sign() == 0 {
				n++ // (0 o / o b): one below 0, one above it, and nothing goes over to the row behind
				d = nil
				continue
			}
			off := rat(c.Off[i-1])
			next.Sub(next, off.Mul(off, off).Quo(off, d))
		}
		if next.Sign() < 0 {
			n++
		}
		d = next
	}
	return n
}

// dense is the chain's matrix.
func dense(c api.Chain) api.Dyads {
	n := len(c.Diag)
	m := api.Dyads{Rows: n, Cols: n, Data: make([]api.Dyad, n*n)}
	for i := range n {
		m.Data[i*n+i], _ = dyad.Of(c.Diag[i])
		if i > 0 {
			m.Data[i*n+i-1], _ = dyad.Of(c.Off[i-1])
			m.Data[i*n-n+i], _ = dyad.Of(c.Off[i-1])
		}
	}
	return m
}

// counts fails unless Count and Exact tell these.
func counts(t *testing.T, c api.Chain, x float64, count, exact int) {
	t.Helper()
	if n, e := sturm.Count(c, x); n != count || e != api.OK {
		t.Fatalf("Count(%v, %v): %v, %v, want %v", c, x, n, e, count)
	}
	if n, e := sturm.Exact(c, x); n != exact || e != api.OK {
		t.Fatalf("Exact(%v, %v): %v, %v, want %v", c, x, n, e, exact)
	}
}

// check fails unless Count and Exact tell what the other ways to them do.
func check(t *testing.T, c api.Chain, x float64) {
	t.Helper()
	counts(t, c, x, inFloats(c, x), byPivots(c, x))
}

// refused fails unless Count and Exact tell this error, and nothing beside it.
func refused(t *testing.T, c api.Chain, x float64, want api.Errno) {
	t.Helper()
	if n, e := sturm.Count(c, x); n != 0 || e != want {
		t.Fatalf("Count(%v, %v): %v, %v, want %v", c, x, n, e, want)
	}
	if n, e := sturm.Exact(c, x); n != 0 || e != want {
		t.Fatalf("Exact(%v, %v): %v, %v, want %v", c, x, n, e, want)
	}
}

// finds fails unless Find tells these, to the bit.
func finds(t *testing.T, c api.Chain, k int, lo, hi float64, want api.Errno) {
	t.Helper()
	if a, b, e := sturm.Find(c, k); !same(a, lo) || !same(b, hi) || e != want {
		t.Fatalf("Find(%v, %v): %v, %v, %v, want %v, %v, %v", c, k, a, b, e, lo, hi, want)
	}
}

// found is what Find tells; it fails unless these are floats as they must be, next to each other, between which the eigenvalue lies.
func found(t *testing.T, c api.Chain, k int) (lo, hi float64) {
	t.Helper()
	lo, hi, e := sturm.Find(c, k)
	if n, ok := bits.Between(lo, hi); e != api.OK || !ok || n != 1 || same(lo, nought) || same(hi, nought) {
		t.Fatalf("Find(%v, %v): %v, %v, %v", c, k, lo, hi, e)
	}
	if a, b := byPivots(c, lo), byPivots(c, hi); a > k || b <= k {
		t.Fatalf("Find(%v, %v): %v, %v, with %v and %v below", c, k, lo, hi, a, b)
	}
	return lo, hi
}

// wrong are chains that are not right, in each way.
func wrong() []api.Chain {
	list := []api.Chain{
		{},
		chain([]float64{}),
		chain(nil, 1),
		chain(nil, 1, 1),
		chain([]float64{1}, 1),
		chain([]float64{1}, 1, 1),
		chain([]float64{1, 1}),
		chain([]float64{1, 1}, 1, 1),
		chain([]float64{1, 1, 1}, 1),
		chain([]float64{1, 1, 1}, 1, 1, 1),
		even(most+1, 1, 1),
		even(most+1, 0, 0),
		even(2*most, 1, 1),
		chain(make([]float64, most+1), make([]float64, most-1)...),
		chain(make([]float64, most), make([]float64, most)...),
		chain(make([]float64, most), make([]float64, most-2)...),
		chain(make([]float64, most), make([]float64, most+1)...),
		chain(make([]float64, most-1), make([]float64, most-1)...),
	}
	for _, x := range []float64{nan, inf, -inf, up(entry), -up(entry), 0x1p501, level, -math.MaxFloat64} {
		list = append(list, chain([]float64{x}))
		for _, n := range []int{2, 3, most} {
			for _, at := range []int{0, n / 2, n - 1} {
				c := even(n, 1, 1)
				c.Diag[at] = x
				list = append(list, c)
				c = even(n, 1, 1)
				c.Off[min(at, n-2)] = x
				list = append(list, c)
			}
		}
	}
	return list
}

// P17.1: which chains are right.
func TestRight(t *testing.T) {
	for n := 1; n <= most; n++ {
		for _, x := range []float64{0, nought, 1, -1, least, -least, 0x1p-1022, entry, -entry, down(entry)} {
			if !sturm.Right(even(n, x, x)) || !sturm.Right(even(n, x, -x)) {
				t.Error("not right:", n, x)
			}
		}
	}
	if !sturm.Right(chain([]float64{1}, []float64{}...)) || !sturm.Right(api.Chain{Diag: []float64{1}}) {
		t.Error("one row, none beside it: not right")
	}
	for _, c := range wrong() {
		if sturm.Right(c) {
			t.Error("right:", c)
		}
	}
}

// P17.1, P17.2: what is refused, and by which error where there are several.
func TestRefused(t *testing.T) {
	xs := []float64{0, 1, level, nan, inf, -inf, up(level), -up(level)}
	for _, c := range wrong() {
		for _, x := range xs {
			refused(t, c, x, api.ErrShape)
		}
		for _, k := range []int{math.MinInt, -1, 0, 1, most, math.MaxInt} {
			finds(t, c, k, 0, 0, api.ErrShape)
		}
	}
	for _, n := range []int{1, 2, most} {
		c := even(n, 2, 1)
		for _, x := range []float64{nan, inf, -inf} {
			refused(t, c, x, api.ErrNumber)
		}
		for _, x := range []float64{up(level), -up(level), 0x1p503, -0x1p503, math.MaxFloat64, -math.MaxFloat64} {
			refused(t, c, x, api.ErrArg)
		}
		for _, k := range []int{-1, -2, -most, math.MinInt} {
			finds(t, c, k, 0, 0, api.ErrArg)
		}
		for _, k := range []int{n, n + 1, 1 << 40, math.MaxInt} {
			finds(t, c, k, 0, 0, api.ErrSturm)
		}
	}
}

// P17.1, P17.2: the chapter's examples, and the document's.
func TestExamples(t *testing.T) {
	two := chain([]float64{2, 2}, 1)
	counts(t, two, 1, 1, 0)
	counts(t, two, 2, 1, 1)
	for _, x := range []struct {
		c    api.Chain
		x    float64
		want int
	}{
		{two, 1, 0}, {two, up(1), 1}, {two, 3, 1}, {two, up(3), 2}, {two, 4, 2},
		{chain([]float64{5}), 5, 0}, {chain([]float64{5}), 6, 1},
		{chain([]float64{-1, 0, 1}, 0, 0), 0, 1},
	} {
		if n, e := sturm.Exact(x.c, x.x); n != x.want || e != api.OK {
			t.Error(x.c, x.x, n, e)
		}
	}
	finds(t, two, 0, 1, up(1), api.OK)
	finds(t, two, 1, 3, up(3), api.OK)
	finds(t, two, 2, 0, 0, api.ErrSturm)
	finds(t, two, -1, 0, 0, api.ErrArg)
	finds(t, chain([]float64{-1, 0, 1}, 0, 0), 1, 0, least, api.OK)
	if sturm.Right(chain([]float64{0x1p501})) {
		t.Error("2^501 is right")
	}
	refused(t, chain([]float64{0x1p501}), 1, api.ErrShape)
	refused(t, chain(nil), 1, api.ErrShape)
	refused(t, two, 0x1p503, api.ErrArg)
	refused(t, two, nan, api.ErrNumber)

	three := chain([]float64{2, 2, 2}, -1, -1)
	counts(t, three, 2, 2, 1)
	finds(t, three, 1, 2, up(2), api.OK)
}

// P17.1: one d equal to 0, one infinite, noughts of both signs, subnormal numbers: as they are told by hand.
func TestPivots(t *testing.T) {
	for _, x := range []struct {
		c            api.Chain
		x            float64
		count, exact int
	}{
		// d of 0, by noughts of each sign.
		{chain([]float64{0}), 0, 1, 0},
		{chain([]float64{nought}), 0, 1, 0},
		{chain([]float64{0}), nought, 1, 0},
		{chain([]float64{nought}), nought, 1, 0},
		{chain([]float64{0}), least, 1, 1},
		{chain([]float64{0}), -least, 0, 0},
		{chain([]float64{least}), 0, 0, 0},
		{chain([]float64{-least}), nought, 1, 1},
		// -2^-1074, +Inf; then 0 is taken off.
		{chain([]float64{0, 0}, 1), 0, 1, 1},
		{chain([]float64{0, 0, 0}, 1, 1), 0, 2, 1},
		{chain([]float64{0, 0, 5}, 1, 1), 0, 1, 1},
		{chain([]float64{0, 0, -5}, 1, 1), 0, 2, 2},
		{chain([]float64{0, 0, 0, 0}, 1, 1, 1), 0, 2, 2},
		{chain([]float64{0, 0, 0, 0}, -1, 1, -1), nought, 2, 2},
		{chain([]float64{7, 7, 7, 7, 7}, 1, 1, 1, 1), 7, 3, 2},
		// The greatest quotient that is finite, and the least float that is taken off.
		{chain([]float64{0, 0}, 0x1p-537), 0, 1, 1},      // a square of 2^-1074, over -2^-1074: 0 less -1
		{chain([]float64{0, -1}, 0x1p-537), 0, 2, 1},     // -1 less -1 is 0
		{chain([]float64{0, -2}, 0x1p-537), 0, 2, 1},     // -2 less -1
		{chain([]float64{0, -2}, 0x1p-536), 0, 1, 1},     // -2 less -4
		{chain([]float64{0, 0}, 0x1p-538), 0, 2, 1},      // a square that is rounded to 0
		{chain([]float64{0, 0}, least), 0, 2, 1},         // likewise
		{chain([]float64{0, 0}, -least), 0, 2, 1},        // likewise
		{chain([]float64{1, 0}, 0x1p-600), 0, 1, 1},      // 0 less 0 is 0: just below
		{chain([]float64{1, 0}, 0x1p-537), 0, 1, 1},      // 0 less 2^-1074
		{chain([]float64{-1, 0}, 0x1p-600), 0, 2, 1},     // 0 less -0
		{chain([]float64{least, least}, least), 0, 0, 0}, // 0 and twice 2^-1074
		{chain([]float64{least, least}, least), least, 2, 1},
		{chain([]float64{least, least}, 2*least), 0, 0, 1},
		// Off of 0, of both signs, behind a d of 0 and behind others.
		{chain([]float64{0, 0}, 0), 0, 2, 0},
		{chain([]float64{0, 0}, nought), 0, 2, 0},
		{chain([]float64{-1, 0, 1}, nought, 0), 0, 2, 1},
		{chain([]float64{1, 0, -1, 0}, 0, nought, 0), 0, 3, 1},
		// The greatest numbers.
		{chain([]float64{entry, entry}, entry), entry, 1, 1},
		{chain([]float64{entry, entry}, entry), 0, 1, 0},
		{chain([]float64{entry, entry}, entry), 0x1p501, 2, 1},
		{chain([]float64{entry, entry}, entry), up(0x1p501), 2, 2},
		{chain([]float64{entry, -entry}, -entry), 0, 1, 1},
		{even(most, entry, entry), level, most, most},
		{even(most, entry, entry), -level, 0, 0},
		{even(most, -entry, -entry), -level, 0, 0},
		{even(most, -entry, entry), level, most, most},
		{even(most, entry, entry), 3 * entry, most, most},
		{even(most, -entry, entry), -3 * entry, 0, 0},
		// What the floats tell otherwise: 1 + 2^-60 is 1.
		{chain([]float64{1, 1}, 0x1p-30), 1 - 0x1p-30, 1, 0},
		{chain([]float64{1}, []float64{}...), 1, 1, 0},
		{chain([]float64{1, 0x1p-60}, 0x1p-30), 0, 1, 0},
		{chain([]float64{1, 0x1p-60}, 0x1p-30), -0x1p-120, 1, 0},
		{chain([]float64{1, up(1)}, up(1)), -0x1p-54, 1, 1},
	} {
		counts(t, x.c, x.x, x.count, x.exact)
		check(t, x.c, x.x)
	}
}

// numbers are ways to choose a chain's numbers: few, so that noughts and like ones turn up; all; those about the least float; those of all sizes.
func numbers(r *rand.Rand) []func(i int) float64 {
	sign := func() float64 { return float64(1 - 2*r.Intn(2)) }
	return []func(i int) float64{
		func(int) float64 { return sign() * float64(r.Intn(3)) },
		func(int) float64 { return r.NormFloat64() },
		func(int) float64 { return sign() * least * float64(r.Intn(4)) },
		func(int) float64 { return sign() * math.Ldexp(r.Float64(), r.Intn(1574)-1074) },
		func(int) float64 {
			return sign() * []float64{0, least, 0x1p-1022, 0x1p-600, 1, up(1), 0x1p499, down(entry), entry}[r.Intn(9)]
		},
	}
}

// mixed is a chain of n rows of numbers chosen in two ways, and one number more.
func mixed(r *rand.Rand, n int) (api.Chain, float64) {
	ways := numbers(r)
	diag, off := ways[r.Intn(len(ways))], ways[r.Intn(len(ways))]
	if r.Intn(2) == 0 {
		off = diag
	}
	return made(n, diag, off), diag(0)
}

// P17.1: chains of many kinds, as the other ways to both counts tell them: at their own numbers, at sums of these, and next to them.
func TestByOtherWays(t *testing.T) {
	r := rand.New(rand.NewSource(1))
	for range 3000 {
		c, x := mixed(r, 1+r.Intn(9))
		i := r.Intn(len(c.Diag))
		for _, x := range []float64{0, nought, x, c.Diag[i], up(c.Diag[i]), down(c.Diag[i])} {
			check(t, c, x)
		}
		if i > 0 {
			check(t, c, c.Diag[i]+c.Off[i-1])
			check(t, c, c.Diag[i]-c.Off[i-1])
		}
	}
	for _, n := range []int{63, most} {
		for _, way := range numbers(r) {
			c := made(n, way, way)
			check(t, c, c.Diag[0])
			check(t, c, 0)
		}
	}
}

// P17.1: as the matrix's own count tells it, which goes by all its entries.
func TestByInertia(t *testing.T) {
	r := rand.New(rand.NewSource(2))
	for k := range 300 {
		n := 1 + r.Intn(12)
		if k < 3 {
			n = api.MaxOrder
		}
		whole := func(int) float64 { return float64(r.Intn(7) - 3) }
		c := made(n, whole, whole)
		for x := -7; x <= 7; x++ {
			want, e := inertia.Below(dense(c), dyad.Int(int64(x)))
			if got, f := sturm.Exact(c, float64(x)); got != want || e != api.OK || f != api.OK {
				t.Fatal(c, x, got, want, e, f)
			}
		}
	}
}

// blocks is a chain of parts of two rows, with the eigenvalues a - b and a + b of each.
func blocks(ab ...[2]float64) (c api.Chain, values []float64) {
	for i, x := range ab {
		c.Diag = append(c.Diag, x[0], x[0])
		if i > 0 {
			c.Off = append(c.Off, []float64{0, nought}[i%2])
		}
		c.Off = append(c.Off, x[1])
		values = append(values, x[0]-math.Abs(x[1]), x[0]+math.Abs(x[1]))
	}
	slices.Sort(values)
	return c, values
}

// P17.1, P17.2: eigenvalues that are known, x itself among them, and many alike.
func TestKnownEigenvalues(t *testing.T) {
	r := rand.New(rand.NewSource(3))
	for range 40 {
		var ab [][2]float64
		for range 1 + r.Intn(most/2) {
			ab = append(ab, [2]float64{float64(r.Intn(7) - 3), float64(r.Intn(7) - 3)})
		}
		c, values := blocks(ab...)
		for k, v := range values {
			ahead, _ := slices.BinarySearch(values, v)
			with, _ := slices.BinarySearch(values, up(v))
			for _, x := range []struct {
				x    float64
				want int
			}{{down(v), ahead}, {v, ahead}, {up(v), with}} {
				if n, e := sturm.Exact(c, x.x); n != x.want || e != api.OK {
					t.Fatal(c, x, n, e)
				}
			}
			finds(t, c, k, v+0, up(v), api.OK)
		}
	}
	for k := range most {
		finds(t, even(most, 3, 0), k, 3, up(3), api.OK)
		finds(t, even(most, nought, nought), k, 0, least, api.OK)
	}
	if n, e := sturm.Exact(even(most, 5, 0), 5); n != 0 || e != api.OK {
		t.Error(n, e)
	}
	if n, e := sturm.Exact(even(most, 5, 0), up(5)); n != most || e != api.OK {
		t.Error(n, e)
	}
}

// P17.2: eigenvalues that are no floats, as cosines tell them nearly.
func TestFindNearly(t *testing.T) {
	for _, n := range []int{1, 2, 3, 10, 63, most} {
		c := even(n, 2, -1)
		last := -inf
		for k := range n {
			want := 2 - 2*math.Cos(float64(k+1)*math.Pi/float64(n+1))
			lo, _, e := sturm.Find(c, k)
			if e != api.OK || math.Abs(lo-want) > 1e-14 || lo <= last {
				t.Fatal(n, k, lo, want, e)
			}
			last = lo
		}
	}
	root := 0x1.6a09e667f3bccp0 // the greatest float not above the root of 2
	for _, by := range []float64{1, entry, 0x1p-1000} {
		c := even(3, 0, by)
		finds(t, c, 0, -up(root)*by, -root*by, api.OK)
		finds(t, c, 1, 0, least, api.OK)
		finds(t, c, 2, root*by, up(root)*by, api.OK)
	}
}

// P17.2: floats about 0, of which 0 is told as +0, and the greatest ones.
func TestFindEdges(t *testing.T) {
	for _, x := range []float64{least, 2 * least, 0x1p-1022, 1, entry} {
		finds(t, chain([]float64{x}), 0, x, up(x), api.OK)
		finds(t, chain([]float64{-x}), 0, -x, down(x)*-1+0, api.OK)
	}
	finds(t, chain([]float64{-least}), 0, -least, 0, api.OK)
	finds(t, chain([]float64{0}), 0, 0, least, api.OK)
	finds(t, chain([]float64{nought}), 0, 0, least, api.OK)
	finds(t, even(2, 0, least), 0, -least, 0, api.OK)
	finds(t, even(2, nought, -least), 1, least, 2*least, api.OK)
	finds(t, even(3, 0, least), 0, -2*least, -least, api.OK) // minus the root of 2
	finds(t, even(3, 0, least), 1, 0, least, api.OK)
	finds(t, even(3, 0, least), 2, least, 2*least, api.OK)
	finds(t, chain([]float64{0, 1}, least), 0, -least, 0, api.OK) // just below 0
	finds(t, chain([]float64{0, 1}, least), 1, 1, up(1), api.OK)
	finds(t, chain([]float64{0, -1}, least), 0, down(-1), -1, api.OK)
	finds(t, chain([]float64{0, -1}, least), 1, 0, least, api.OK)
	finds(t, even(2, entry, entry), 0, 0, least, api.OK)
	finds(t, even(2, entry, -entry), 1, 0x1p501, up(0x1p501), api.OK)
	finds(t, even(2, -entry, entry), 0, -0x1p501, up(-0x1p501), api.OK)
	for _, c := range []api.Chain{even(most, entry, entry), even(most, -entry, entry), even(most, down(entry), -entry)} {
		found(t, c, 0)
		found(t, c, most-1)
	}
}

// P17.2, P17.5: chains of many kinds: the eigenvalue lies between Find's floats, which rise with k, or stay.
func TestFind(t *testing.T) {
	r := rand.New(rand.NewSource(4))
	for range 150 {
		c, _ := mixed(r, 1+r.Intn(6))
		last := -inf
		for k := range c.Diag {
			lo, hi := found(t, c, k)
			if lo < last {
				t.Fatal("falls:", c, k, lo, last)
			}
			last = lo
			check(t, c, lo)
			check(t, c, hi)
		}
	}
	// Wilkinson's chain: eigenvalues in pairs that are nearly alike.
	c := made(21, func(i int) float64 { return math.Abs(float64(i - 10)) }, func(int) float64 { return 1 })
	for k := range c.Diag {
		found(t, c, k)
	}
	for _, way := range numbers(r)[:3] {
		c := made(most, way, way)
		last := -inf
		for _, k := range []int{0, 1, most / 2, most - 2, most - 1} {
			lo, _ := found(t, c, k)
			if lo < last {
				t.Fatal("falls:", c, k, lo, last)
			}
			last = lo
		}
	}
}

// turned is c end to end.
func turned(c api.Chain) api.Chain {
	c = copied(c)
	slices.Reverse(c.Diag)
	slices.Reverse(c.Off)
	return c
}

// otherSigns is c with some signs of Off turned.
func otherSigns(r *rand.Rand, c api.Chain) api.Chain {
	c = copied(c)
	for i := range c.Off {
		c.Off[i] *= float64(1 - 2*r.Intn(2))
	}
	return c
}

// levels are numbers for x, rising: the ends, c's own numbers, eigenvalues and the floats about all of these.
func levels(r *rand.Rand, c api.Chain) []float64 {
	xs := []float64{-level, level, 0, nought}
	for _, x := range append(slices.Clone(c.Diag), c.Off...) {
		xs = append(xs, x, -x)
	}
	for range 2 {
		k := r.Intn(len(c.Diag))
		lo, hi, _ := sturm.Find(c, k)
		for range 12 {
			xs = append(xs, lo, hi)
			lo, hi = bits.Next(lo, false), bits.Next(hi, true)
		}
	}
	slices.Sort(xs)
	return xs
}

// P17.5: neither count falls as x rises; a chain turned, and one with other signs of Off, have the same exact one.
func TestCountsRise(t *testing.T) {
	r := rand.New(rand.NewSource(5))
	for k := range 400 {
		n := 1 + r.Intn(9)
		if k%50 == 0 {
			n = most
		}
		c, _ := mixed(r, n)
		back, other := turned(c), otherSigns(r, c)
		lastCount, lastExact := 0, 0
		for _, x := range levels(r, c) {
			count, _ := sturm.Count(c, x)
			exact, _ := sturm.Exact(c, x)
			if count < lastCount || exact < lastExact {
				t.Fatal("falls:", c, x, lastCount, count, lastExact, exact)
			}
			lastCount, lastExact = count, exact
			ofBack, _ := sturm.Exact(back, x)
			ofOther, _ := sturm.Exact(other, x)
			if ofBack != exact || ofOther != exact {
				t.Fatal(c, x, exact, ofBack, ofOther)
			}
		}
		if lastExact != n {
			t.Fatal("at 2^502:", c, lastExact)
		}
		if exact, e := sturm.Exact(c, -level); exact != 0 || e != api.OK {
			t.Fatal("at -2^502:", c, exact, e)
		}
	}
}

// P17.5: where all Off are 0 the exact count is that of the diagonal's numbers.
func TestDiagonal(t *testing.T) {
	r := rand.New(rand.NewSource(6))
	for range 200 {
		c, x := mixed(r, 1+r.Intn(most))
		for i := range c.Off {
			c.Off[i] = []float64{0, nought}[r.Intn(2)]
		}
		for _, x := range []float64{x, 0, c.Diag[0], up(c.Diag[0]), c.Diag[len(c.Diag)-1]} {
			want := 0
			for _, d := range c.Diag {
				if d < x {
					want++
				}
			}
			if n, e := sturm.Exact(c, x); n != want || e != api.OK {
				t.Fatal(c, x, n, want, e)
			}
		}
	}
}

// P17.5: parts with noughts between them: the counts of all parts come together.
func TestParts(t *testing.T) {
	r := rand.New(rand.NewSource(7))
	for range 300 {
		ways := numbers(r)
		way := ways[r.Intn(len(ways))]
		var whole api.Chain
		var parts []api.Chain
		for len(whole.Diag) < 20 {
			part := made(1+r.Intn(5), way, way)
			parts = append(parts, part)
			if len(whole.Diag) > 0 {
				whole.Off = append(whole.Off, []float64{0, nought}[r.Intn(2)])
			}
			whole.Diag = append(whole.Diag, part.Diag...)
			whole.Off = append(whole.Off, part.Off...)
		}
		for _, x := range []float64{0, whole.Diag[0], up(whole.Diag[3]), way(0)} {
			sum := 0
			for _, part := range parts {
				n, _ := sturm.Exact(part, x)
				sum += n
			}
			if n, e := sturm.Exact(whole, x); n != sum || e != api.OK {
				t.Fatal(whole, x, n, sum, e)
			}
		}
	}
}
