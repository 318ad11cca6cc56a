package sturm_test

import (
	"math/rand"
	"slices"
	"testing"

	"girder/api"
	"girder/sturm"
)

// roomy is l with three more places behind it, which hold 77.
func roomy(l []float64) []float64 {
	return append(slices.Clone(l), 77, 77, 77)[: len(l) : len(l)+3]
}

// left fails unless l is as it was, its spare room too.
func left(t *testing.T, l, was []float64) {
	t.Helper()
	if !sameList(l, was) || !slices.Equal(l[len(l):len(l)+3], []float64{77, 77, 77}) {
		t.Fatal("changed:", l, was, l[len(l):len(l)+3])
	}
}

// R3: what is handed in is left as it was, its spare room too.
func TestListsAreLeft(t *testing.T) {
	r := rand.New(rand.NewSource(21))
	for range 100 {
		c, x := mixed(r, 1+r.Intn(6))
		was := copied(c)
		c.Diag, c.Off = roomy(c.Diag), roomy(c.Off)
		sturm.Right(c)
		sturm.Count(c, x)
		sturm.Exact(c, x)
		sturm.Find(c, len(c.Diag)-1)
		left(t, c.Diag, was.Diag)
		left(t, c.Off, was.Off)

		props := make([]float64, 1+r.Intn(6))
		for i := range props {
			props[i] = 1 + r.Float64()
		}
		lengths := append(slices.Clone(props), 3)
		p, l := roomy(props), roomy(lengths)
		sturm.Chord(p, l, 2)
		sturm.Least(p, l, 2)
		left(t, p, props)
		left(t, l, lengths)
	}
}

// R3: lists may share their memory.
func TestListsThatShare(t *testing.T) {
	r := rand.New(rand.NewSource(22))
	for range 100 {
		c, x := mixed(r, 2+r.Intn(5))
		c.Off = c.Diag[1:]
		apart := copied(c)
		check(t, c, x)
		if !sturm.Right(c) || !sameList(c.Diag, apart.Diag) {
			t.Fatal(c)
		}
		for k := range c.Diag {
			lo, hi, _ := sturm.Find(apart, k)
			finds(t, c, k, lo, hi, api.OK)
		}
	}
	lengths := []float64{1, 2, 3, 4, 5}
	leads(t, lengths[1:], lengths, 3, chord([]float64{2, 3, 4, 5}, []float64{1, 2, 3, 4, 5}, 3))
	leads(t, lengths[:4], lengths, 3, chord([]float64{1, 2, 3, 4}, []float64{1, 2, 3, 4, 5}, 3))
	lo, hi := halved(t, []float64{1, 2, 3, 4}, []float64{1, 2, 3, 4, 5}, long)
	yields(t, lengths[:4], lengths, long, lo, hi)
	if !slices.Equal(lengths, []float64{1, 2, 3, 4, 5}) {
		t.Error(lengths)
	}
}

// R3, R4: what Chord hands out is new, shares no memory, spare room too, and is told again.
func TestAnswersAreNew(t *testing.T) {
	for _, n := range []int{1, 2, 5, most} {
		props, lengths := many(n, 4), many(n+1, 2)
		c, _ := sturm.Chord(props, lengths, 3)
		want := copied(c)
		again, _ := sturm.Chord(props, lengths, 3)
		lists := [][]float64{c.Diag, c.Off, again.Diag, again.Off, props, lengths}
		for k := range 2 {
			room := lists[k][:cap(lists[k])]
			for i := range room {
				room[i] = 99
				for other, list := range lists {
					if other != k && cap(list) > 0 && &list[:cap(list)][0] == &room[i] {
						t.Fatal("shared memory:", n, k, other)
					}
				}
			}
		}
		if !slices.Equal(props, many(n, 4)) || !slices.Equal(lengths, many(n+1, 2)) || !sameList(again.Diag, want.Diag) || !sameList(again.Off, want.Off) {
			t.Fatal("shared memory:", n)
		}
		leads(t, props, lengths, 3, want)
	}
}
