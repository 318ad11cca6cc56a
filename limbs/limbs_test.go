package limbs_test

import (
	"math"
	"math/big"
	"math/rand"
	"slices"
	"testing"

	"girder/limbs"
)

const ones = math.MaxUint64

// whole is the value of x.
func whole(x []uint64) *big.Int {
	v := new(big.Int)
	for _, limb := range slices.Backward(x) {
		v.Lsh(v, 64).Or(v, new(big.Int).SetUint64(limb))
	}
	return v
}

// row is the limbs of v.
func row(v *big.Int) []uint64 {
	var out []uint64
	for rest := new(big.Int).Set(v); rest.Sign() != 0; rest.Rsh(rest, 64) {
		out = append(out, new(big.Int).And(rest, new(big.Int).SetUint64(ones)).Uint64())
	}
	return out
}

// some is n numbers of all lengths up to most limbs, 0 and noughts on top among them.
func some(r *rand.Rand, n, most int) [][]uint64 {
	out := [][]uint64{nil, {}, {0}, {1}, {ones}, {0, 0, 0}, {1, 0}, {0, 1}, {ones, ones, 0, 0}, {0, 0, 1 << 63}}
	for len(out) < n {
		x := make([]uint64, 1+r.Intn(most))
		for i := range x {
			x[i] = []uint64{0, 1, ones, ones - 1, 1 << 63, r.Uint64(), 1 << r.Intn(64)}[r.Intn(7)]
		}
		out = append(out, x)
	}
	return out
}

func isSame(t *testing.T, what string, got []uint64, want *big.Int, of ...[]uint64) {
	t.Helper()
	if !slices.Equal(got, row(want)) {
		t.Fatalf("%s of %x: %x, want %x", what, of, got, row(want))
	}
}

func TestPut(t *testing.T) {
	for _, x := range []struct {
		low  int
		row  []uint64
		want []uint64
	}{
		{0, nil, nil}, {3, nil, nil}, {3, []uint64{0, 0}, nil}, {0, []uint64{5}, []uint64{5}}, {2, []uint64{0, 5, 0}, []uint64{0, 0, 0, 5}}, {0, []uint64{1, 2, 3}, []uint64{1, 2, 3}},
	} {
		if got := limbs.Put(x.low, x.row...); !slices.Equal(got, x.want) {
			t.Error(x, got)
		}
	}
	from := []uint64{1, 2}
	if limbs.Put(0, from...)[0] = 9; from[0] != 1 {
		t.Error("Put shares memory")
	}
}

func TestBits(t *testing.T) {
	r := rand.New(rand.NewSource(1))
	for _, x := range some(r, 300, 6) {
		v := whole(x)
		isSame(t, "Trim", limbs.Trim(x), v, x)
		if got := limbs.Len(x); got != v.BitLen() {
			t.Fatal("Len", x, got)
		}
		if got := limbs.Zeros(x); got != int(v.TrailingZeroBits()) {
			t.Fatal("Zeros", x, got)
		}
		for range 20 {
			by := r.Intn(600) - 300
			if r.Intn(3) == 0 {
				by = 64 * (r.Intn(9) - 4)
			}
			shifted := new(big.Int).Rsh(new(big.Int).Lsh(v, 300), uint(300-by))
			isSame(t, "Shift", limbs.Shift(x, by), shifted, x)
			if got := limbs.Window(x, -by); got != limbs.At(row(shifted), 0) {
				t.Fatal("Window", x, -by, got)
			}
		}
	}
}

func TestReckon(t *testing.T) {
	r := rand.New(rand.NewSource(2))
	list := some(r, 120, 9)
	for _, a := range list {
		for _, b := range list {
			keptA, keptB := slices.Clone(a), slices.Clone(b)
			x, y := whole(a), whole(b)
			c := limbs.Cmp(a, b)
			if c != x.Cmp(y) {
				t.Fatal("Cmp", a, b, c)
			}
			isSame(t, "Add", limbs.Add(a, b), new(big.Int).Add(x, y), a, b)
			isSame(t, "Mul", limbs.Mul(a, b), new(big.Int).Mul(x, y), a, b)
			if c >= 0 {
				isSame(t, "Sub", limbs.Sub(a, b), new(big.Int).Sub(x, y), a, b)
			}
			if y.Sign() != 0 {
				divides(t, a, b)
			}
			if !slices.Equal(a, keptA) || !slices.Equal(b, keptB) {
				t.Fatal("arguments have changed", keptA, keptB)
			}
		}
	}
}

func divides(t *testing.T, a, b []uint64) {
	t.Helper()
	quotient, rest := limbs.Div(a, b)
	x, y := new(big.Int).QuoRem(whole(a), whole(b), new(big.Int))
	isSame(t, "Div", quotient, x, a, b)
	isSame(t, "what Div leaves", rest, y, a, b)
}

// A guess of a quotient's limb may be right, one too great or two, also where the highest limbs are the same.
func TestDivGuesses(t *testing.T) {
	for _, b := range [][]uint64{{0, 1 << 63}, {1, 1 << 63}, {ones, 1 << 63}, {ones, ones, 1 << 63}, {ones, 1}, {0, ones}, {ones, ones}, {0, 0, 1}} {
		for _, quotient := range [][]uint64{{1}, {ones}, {ones - 1}, {ones, ones}, {0, ones}, {1 << 63}, {ones, 0, 1}} {
			product := limbs.Mul(b, quotient)
			for _, a := range [][]uint64{product, limbs.Add(product, limbs.Sub(b, []uint64{1})), limbs.Sub(product, []uint64{1}), limbs.Add(product, []uint64{1})} {
				divides(t, a, b)
			}
		}
	}
}

func TestCommon(t *testing.T) {
	r := rand.New(rand.NewSource(3))
	list := some(r, 90, 12)
	list = append(list, fibonacci(300), fibonacci(301), fibonacci(1000), fibonacci(1500), []uint64{ones, ones, ones}, []uint64{ones - 1, ones, ones})
	for _, a := range list {
		for _, b := range list {
			if limbs.Len(a) == 0 || limbs.Len(b) == 0 {
				continue
			}
			c := limbs.Mul(list[r.Intn(len(list))], list[r.Intn(len(list))])
			if limbs.Len(c) == 0 {
				c = []uint64{3}
			}
			common(t, a, b)
			common(t, limbs.Mul(a, c), limbs.Mul(b, c))
		}
	}
}

// common asks for the greatest common divisor with no least length, with its own, and with one more.
func common(t *testing.T, a, b []uint64) {
	t.Helper()
	want := new(big.Int).GCD(nil, nil, whole(a), whole(b))
	isSame(t, "Common", limbs.Common(a, b, -5), want, a, b)
	isSame(t, "Common", limbs.Common(a, b, want.BitLen()), want, a, b)
	isSame(t, "Common", limbs.Common(a, b, want.BitLen()+1), new(big.Int), a, b)
}

// Of numbers that have nothing near so long in common none is told, and soon.
func TestCommonLeast(t *testing.T) {
	r := rand.New(rand.NewSource(4))
	a, b := make([]uint64, 20000), make([]uint64, 20000)
	for i := range a {
		a[i], b[i] = r.Uint64()|1, r.Uint64()|1
	}
	for _, x := range [][2][]uint64{{a, b}, {a, b[:30]}, {limbs.Shift(a, 70), b}, {limbs.Shift(a, 70), limbs.Shift(b[:30], 70)}} {
		if got := limbs.Common(x[0], x[1], limbs.Len(a)-5000); got != nil {
			t.Error("a common divisor of", len(got), "limbs")
		}
		if got := limbs.Common(x[1], x[0], limbs.Len(a)-5000); got != nil {
			t.Error("a common divisor of", len(got), "limbs")
		}
	}
	of, by := limbs.Mul(a, []uint64{3, 5}), limbs.Mul(a, []uint64{7, 1})
	if got := limbs.Common(of, by, limbs.Len(a)); !slices.Equal(got, a) {
		t.Error("no common divisor", len(got))
	}
}

// fibonacci is the number of rabbits after n months: two that stand next to each other take the most steps.
func fibonacci(n int) []uint64 {
	a, b := []uint64(nil), []uint64{1}
	for range n {
		a, b = b, limbs.Add(a, b)
	}
	return a
}
