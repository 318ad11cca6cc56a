package sturm_test

import (
	"math"
	"math/rand"
	"slices"
	"testing"

	"girder/api"
	"girder/bits"
	"girder/round"
	"girder/sturm"
)

const (
	short = 0x1p-60 // the least prop and length
	long  = 0x1p60  // the greatest one; the greatest push
)

// many is x, n times.
func many(n int, x float64) []float64 { return slices.Repeat([]float64{x}, n) }

// with is l with x at the place at.
func with(l []float64, at int, x float64) []float64 {
	l = slices.Clone(l)
	l[at] = x
	return l
}

// chord is what Chord must tell, each operation by package round.
func chord(props, lengths []float64, push float64) api.Chain {
	var c api.Chain
	over := func(i int) float64 { return round.Div(push, lengths[i], api.Nearest) }
	for i := range props {
		c.Diag = append(c.Diag, round.Sub(props[i], round.Add(over(i), over(i+1), api.Nearest), api.Nearest))
		if i > 0 {
			c.Off = append(c.Off, over(i))
		}
	}
	return c
}

// leads fails unless Chord tells want, to the bit, and Least takes the same arguments.
func leads(t *testing.T, props, lengths []float64, push float64, want api.Chain) {
	t.Helper()
	c, e := sturm.Chord(props, lengths, push)
	if e != api.OK || !sameList(c.Diag, want.Diag) || !sameList(c.Off, want.Off) {
		t.Fatalf("Chord(%v, %v, %v): %v, %v, want %v", props, lengths, push, c, e, want)
	}
	if !sturm.Right(c) {
		t.Fatal("not right:", c)
	}
	if lo, hi, e := sturm.Least(props, lengths, push); e != api.OK && (e != api.ErrSturm || lo != 0 || hi != 0) {
		t.Fatal("Least:", props, lengths, push, lo, hi, e)
	}
}

// chordRefused fails unless Chord and Least tell this error, and nothing beside it.
func chordRefused(t *testing.T, props, lengths []float64, push float64, want api.Errno) {
	t.Helper()
	if c, e := sturm.Chord(props, lengths, push); e != want || len(c.Diag) != 0 || len(c.Off) != 0 {
		t.Fatalf("Chord(%v, %v, %v): %v, %v, want %v", props, lengths, push, c, e, want)
	}
	if lo, hi, e := sturm.Least(props, lengths, push); e != want || !same(lo, 0) || !same(hi, 0) {
		t.Fatalf("Least(%v, %v, %v): %v, %v, %v, want %v", props, lengths, push, lo, hi, e, want)
	}
}

// P17.3: the chapter's examples, and others by hand.
func TestChord(t *testing.T) {
	leads(t, []float64{4}, []float64{1, 1}, 1, chain([]float64{2}))
	leads(t, []float64{4, 4}, []float64{1, 1, 1}, 1, chain([]float64{2, 2}, 1))
	leads(t, []float64{4, 5}, []float64{1, 2, 4}, 4, chain([]float64{-2, 2}, 2))
	leads(t, []float64{9, 9, 9}, []float64{1, 2, 4, 8}, 8, chain([]float64{-3, 3, 6}, 4, 2))
	leads(t, []float64{1}, []float64{1, 0x1p53}, 1, chain([]float64{0}))                // 1 + 2^-53 is 1
	leads(t, []float64{1}, []float64{0x1p54, 0x1p54}, 1, chain([]float64{1 - 0x1p-53})) // the sum ahead of the difference
	leads(t, []float64{short, long}, []float64{short, long, short}, long, chain([]float64{-0x1p120, -0x1p120}, 1))
	leads(t, many(most, 4), many(most+1, 1), 1, even(most, 2, 1))
	// A push of 0, of either sign, and the least one.
	leads(t, []float64{4, 5, 6}, []float64{1, 2, 3, 4}, 0, chain([]float64{4, 5, 6}, 0, 0))
	leads(t, []float64{4, 5, 6}, []float64{1, 2, 3, 4}, nought, chain([]float64{4, 5, 6}, nought, nought))
	leads(t, []float64{4, 5, 6}, []float64{1, 2, 3, 4}, least, chain([]float64{4, 5, 6}, 0, 0))
	leads(t, []float64{4, 5}, []float64{1, 1.5, 4}, least, chain([]float64{4, 5}, least))
	leads(t, []float64{4, 5}, []float64{short, short, 4}, least, chain([]float64{4, 5}, 0x1p-1014))
}

// P17.3: chords of many kinds, to the bit.
func TestChordByRound(t *testing.T) {
	r := rand.New(rand.NewSource(11))
	measure := func() float64 {
		switch r.Intn(4) {
		case 0:
			return []float64{short, up(short), long, down(long)}[r.Intn(4)]
		case 1:
			return 1 + r.Float64()
		}
		return math.Ldexp(1+r.Float64(), r.Intn(119)-60)
	}
	for range 400 {
		props, lengths := make([]float64, 1+r.Intn(8)), []float64{measure()}
		for i := range props {
			props[i] = measure()
			lengths = append(lengths, measure())
		}
		for _, push := range []float64{0, nought, least, measure(), long, math.Ldexp(r.Float64(), -1060)} {
			leads(t, props, lengths, push, chord(props, lengths, push))
		}
	}
}

// P17.3, P17.4: what is refused, and by which error where there are several.
func TestChordRefused(t *testing.T) {
	for _, push := range []float64{1, nan, -1} {
		for _, n := range []int{0, most + 1, 2 * most} {
			for _, m := range []int{0, 1, n - 1, n, n + 1, n + 2} {
				chordRefused(t, many(n, 4), many(max(m, 0), 1), push, api.ErrShape)
				chordRefused(t, many(n, nan), many(max(m, 0), 0), push, api.ErrShape)
			}
		}
		for _, n := range []int{1, 2, most} {
			for _, m := range []int{0, n - 1, n, n + 2, 2 * n} {
				if m != n+1 {
					chordRefused(t, many(n, 4), many(m, 1), push, api.ErrShape)
					chordRefused(t, many(n, nan), many(m, -1), push, api.ErrShape)
				}
			}
		}
	}
	for _, n := range []int{1, 2, most} {
		props, lengths := many(n, 4), many(n+1, 1)
		for _, bad := range []float64{nan, inf, -inf} {
			chordRefused(t, props, lengths, bad, api.ErrNumber)
			chordRefused(t, with(props, 0, -1), with(lengths, 0, 0), bad, api.ErrNumber)
			for _, at := range []int{0, n / 2, n - 1} {
				for _, push := range []float64{1, -1, math.MaxFloat64} {
					chordRefused(t, with(props, at, bad), lengths, push, api.ErrNumber)
					chordRefused(t, props, with(lengths, at+1, bad), push, api.ErrNumber)
					chordRefused(t, with(props, 0, -1), with(lengths, at+1, bad), push, api.ErrNumber)
					chordRefused(t, with(props, at, bad), with(lengths, 0, 0), push, api.ErrNumber)
				}
			}
			chordRefused(t, props, with(lengths, 0, bad), 1, api.ErrNumber)
		}
		for _, bad := range []float64{0, nought, -1, least, down(short), up(long), -long, -short, 0x1p61, math.MaxFloat64, -math.MaxFloat64} {
			for _, at := range []int{0, n / 2, n - 1} {
				chordRefused(t, with(props, at, bad), lengths, 1, api.ErrArg)
				chordRefused(t, props, with(lengths, at+1, bad), 1, api.ErrArg)
			}
			chordRefused(t, props, with(lengths, 0, bad), 1, api.ErrArg)
		}
		for _, push := range []float64{-least, -1, -long, up(long), 0x1p61, math.MaxFloat64, -math.MaxFloat64} {
			chordRefused(t, props, lengths, push, api.ErrArg)
		}
	}
	for _, x := range []float64{short, up(short), down(long), long} {
		leads(t, many(3, x), many(4, x), long, chord(many(3, x), many(4, x), long))
	}
}

// gives tells whether the chord gives way under the push.
func gives(t *testing.T, props, lengths []float64, push float64) bool {
	t.Helper()
	n, e := sturm.Exact(chord(props, lengths, push), 0)
	if e != api.OK {
		t.Fatal(props, lengths, push, e)
	}
	return n > 0
}

// halved is what Least must tell where most gives way: halves of places, step by step.
func halved(t *testing.T, props, lengths []float64, most float64) (lo, hi float64) {
	t.Helper()
	a := uint64(0)
	b := math.Float64bits(most) // the place of a float above 0
	for b-a > 1 {
		m := (a + b) / 2 // no uint64 wraps here: places of what is at most 2^60 are below 2^63
		if gives(t, props, lengths, math.Float64frombits(m)) {
			b = m
		} else {
			a = m
		}
	}
	return math.Float64frombits(a), math.Float64frombits(b)
}

// yields fails unless Least tells these.
func yields(t *testing.T, props, lengths []float64, most, lo, hi float64) {
	t.Helper()
	if a, b, e := sturm.Least(props, lengths, most); !same(a, lo) || !same(b, hi) || e != api.OK {
		t.Fatalf("Least(%v, %v, %v): %v, %v, %v, want %v, %v", props, lengths, most, a, b, e, lo, hi)
	}
}

// holds fails unless Least tells that most does not make the chord give way.
func holds(t *testing.T, props, lengths []float64, most float64) {
	t.Helper()
	if a, b, e := sturm.Least(props, lengths, most); !same(a, 0) || !same(b, 0) || e != api.ErrSturm {
		t.Fatalf("Least(%v, %v, %v): %v, %v, %v, want ErrSturm", props, lengths, most, a, b, e)
	}
}

// P17.4: the chapter's examples, and others by hand; most that is the least push, and the one just below it.
func TestLeast(t *testing.T) {
	one := []float64{1, 1}
	yields(t, []float64{4}, one, long, 2, up(2))
	holds(t, []float64{4}, one, 2)
	for _, x := range []struct {
		props, lengths []float64
		lo             float64
	}{
		{[]float64{4}, one, 2},
		{[]float64{long}, one, 0x1p59}, // places whose sum no int64 holds
		{[]float64{down(long)}, one, down(0x1p59)},
		{[]float64{short}, one, 0x1p-61},
		{[]float64{short}, []float64{short, short}, 0x1p-121},
		{[]float64{4}, []float64{1, long}, 4}, // 4 + 2^-58 is 4 in floats
		{[]float64{4}, []float64{0x1p-52, 0x1p-52}, 0x1p-51},
		{[]float64{4, 4}, []float64{1, 1, 1}, down(4.0 / 3)},
		{[]float64{1, long}, []float64{1, long, 1}, 1 - 0x1p-53},
	} {
		if a, b, e := sturm.Least(x.props, x.lengths, long); e != api.OK || b != up(a) || math.Abs(a-x.lo) > 4*(up(x.lo)-x.lo) {
			t.Error(x.props, x.lengths, a, b, e)
		}
		lo, hi := halved(t, x.props, x.lengths, long)
		yields(t, x.props, x.lengths, long, lo, hi)
		yields(t, x.props, x.lengths, hi, lo, hi) // most itself is the least one
		yields(t, x.props, x.lengths, up(hi), lo, hi)
		holds(t, x.props, x.lengths, lo)
		holds(t, x.props, x.lengths, down(lo))
	}
	yields(t, []float64{long}, one, long, 0x1p59, up(0x1p59))
	yields(t, []float64{short}, []float64{short, short}, long, 0x1p-121, up(0x1p-121))
	// Pushes that make nothing give way: noughts, the least float, and the greatest push upon long links.
	for _, push := range []float64{0, nought, least, 0x1p-1022, 0x1p-130} {
		holds(t, []float64{4}, one, push)
		holds(t, []float64{short}, []float64{short, short}, push)
		holds(t, many(most, short), many(most+1, short), push)
	}
	holds(t, []float64{2}, []float64{long, long}, long)
	holds(t, many(most, 4), many(most+1, long), long)
	yields(t, []float64{down(2)}, []float64{long, long}, long, down(long), long)
}

// P17.4: a row of like props and links, as cosines tell its least push nearly.
func TestLeastNearly(t *testing.T) {
	for _, n := range []int{1, 2, 3, 10, 63, most} {
		want := 4 / (2 + 2*math.Cos(math.Pi/float64(n+1)))
		lo, hi, e := sturm.Least(many(n, 4), many(n+1, 1), long)
		if e != api.OK || hi != up(lo) || math.Abs(lo-want) > 1e-14 {
			t.Error(n, lo, hi, want, e)
		}
	}
}

// P17.4, P17.5: rows of many kinds: the first float does not give way, the second one does, and they stand next to each other.
func TestLeastOfMany(t *testing.T) {
	r := rand.New(rand.NewSource(12))
	for k := range 60 {
		n := 1 + r.Intn(8)
		if k < 3 {
			n = most - k
		}
		wide := []int{1, 20, 119}[r.Intn(3)]
		measure := func() float64 { return math.Ldexp(1+r.Float64(), r.Intn(wide)-wide/2-1) }
		props, lengths := make([]float64, n), []float64{measure()}
		for i := range props {
			props[i] = measure()
			lengths = append(lengths, measure())
		}
		if !gives(t, props, lengths, long) {
			holds(t, props, lengths, long)
			continue
		}
		lo, hi := halved(t, props, lengths, long)
		yields(t, props, lengths, long, lo, hi)
		if between, ok := bits.Between(lo, hi); !ok || between != 1 || gives(t, props, lengths, lo) || !gives(t, props, lengths, hi) {
			t.Fatal(props, lengths, lo, hi)
		}
		some := min(hi*(1+r.Float64()), long)
		yields(t, props, lengths, some, lo, hi)
		holds(t, props, lengths, lo*r.Float64())
	}
}
