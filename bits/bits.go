// Package bits is layer 1: see shared/doc/01-bits.md.
package bits

import (
	"math"
	mathbits "math/bits"

	"girder/api"
)

// A float's bits, from the lowest on: fracBits of its fraction, expBits of its exponent, one of its sign.
const (
	fracBits = 52
	expBits  = 11
	signBit  = uint64(1) << (fracBits + expBits)
	fracMask = uint64(1)<<fracBits - 1
	expMask  = uint64(1)<<expBits - 1
)

const (
	leastExp  = -1074 // of the least float above 0
	normalExp = -1022 // of the least float that is not subnormal
	mostExp   = 1023  // of the greatest power of two
	bias      = 1023
)

// lastPlace is P, the place of plus infinity.
const lastPlace int64 = 1<<63 - 1<<fracBits

// What Kind tells.
const (
	kindNought = iota
	kindSubnormal
	kindNormal
	kindInfinite
	kindNaN
)

// Same tells whether a and b have the same bits, or are both NaN.
func Same(a, b float64) bool {
	if math.IsNaN(a) {
		return math.IsNaN(b)
	}
	return math.Float64bits(a) == math.Float64bits(b)
}

// Kind tells nought (0), subnormal (1), normal (2), infinite (3), NaN (4).
func Kind(x float64) int {
	size := math.Abs(x)
	switch {
	case math.IsNaN(x):
		return kindNaN
	case size > math.MaxFloat64:
		return kindInfinite
	case size >= power(normalExp):
		return kindNormal
	case size > 0:
		return kindSubnormal
	}
	return kindNought
}

// Split takes a finite float apart.
func Split(x float64) (api.Parts, bool) {
	if !finite(x) {
		return api.Parts{}, false
	}
	b := math.Float64bits(x)
	p := api.Parts{Neg: b&signBit != 0}
	frac, exp := b&fracMask, lastBit(b)
	if exponent(b) != 0 {
		frac |= 1 << fracBits // normal floats leave their first bit unsaid
	}
	if frac == 0 {
		return p, true
	}
	zeros := mathbits.TrailingZeros64(frac)
	p.Frac, p.Exp = frac>>zeros, exp+zeros
	return p, true
}

// Join puts a finite float together of its parts.
func Join(p api.Parts) (float64, bool) {
	size, ok := sizeOf(p.Frac, p.Exp)
	if !ok {
		return 0, false
	}
	if p.Neg {
		size = -size
	}
	return size, true
}

// sizeOf tells frac times 2 to the power exp, if these are right parts and that is a finite float.
func sizeOf(frac uint64, exp int) (float64, bool) {
	switch {
	case frac == 0:
		return 0, exp == 0
	case frac&1 == 0 || frac>>(fracBits+1) != 0:
		return 0, false
	case exp < leastExp || exp > mostExp:
		return 0, false
	}
	// Both factors are floats, and within these limits their product is one too, unless it lies beyond all finite ones: nothing is rounded.
	size := float64(frac) * power(exp)
	if !finite(size) {
		return 0, false
	}
	return size, true
}

// Place tells the place of x; NaN has none.
func Place(x float64) (int64, bool) {
	if math.IsNaN(x) {
		return 0, false
	}
	// Read as whole numbers, the bits of floats above 0 rise one by one with them.
	b := math.Float64bits(x)
	if b&signBit != 0 {
		return -int64(b &^ signBit), true
	}
	return int64(b), true
}

// At tells the float at a place.
func At(place int64) (float64, bool) {
	switch {
	case place < -lastPlace || place > lastPlace:
		return 0, false
	case place < 0:
		return math.Float64frombits(signBit | uint64(-place)), true
	}
	return math.Float64frombits(uint64(place)), true
}

// Next tells the float one place above x, or below it.
func Next(x float64, up bool) float64 {
	place, ok := Place(x)
	if !ok {
		return x
	}
	if up {
		place = min(place+1, lastPlace)
	} else {
		place = max(place-1, -lastPlace)
	}
	next, _ := At(place)
	return next
}

// Ulp tells how far away from x the next float of greater size lies.
func Ulp(x float64) (float64, bool) {
	if !finite(x) {
		return 0, false
	}
	return power(lastBit(math.Float64bits(x))), true
}

// Order tells -1, 0, 1 as a stands ahead of b, they are alike, or b ahead of a.
func Order(a, b float64) int {
	switch {
	case math.IsNaN(a) && math.IsNaN(b):
		return 0
	case math.IsNaN(a):
		return 1
	case math.IsNaN(b):
		return -1
	case a < b:
		return -1
	case a > b:
		return 1
	}
	return orderSigns(math.Signbit(a), math.Signbit(b))
}

// orderSigns is what is left where < tells nothing: only noughts are equal and differ in sign.
func orderSigns(a, b bool) int {
	switch {
	case a && !b:
		return -1
	case b && !a:
		return 1
	}
	return 0
}

// Between tells how many places lie above that of a and not above that of b.
func Between(a, b float64) (uint64, bool) {
	from, okA := Place(a)
	to, okB := Place(b)
	if !okA || !okB || from > to {
		return 0, false
	}
	// From one infinity to the other there are more places than an int64 holds; the difference wraps to the right uint64.
	return uint64(to) - uint64(from), true
}

// finite is false of NaN too, whose comparisons are.
func finite(x float64) bool {
	return math.Abs(x) <= math.MaxFloat64
}

// exponent is the exponent's bits as they stand.
func exponent(b uint64) int {
	return int(b >> fracBits & expMask)
}

// lastBit is the power of two for which the lowest bit of a finite float stands: subnormal floats share that of the least normal ones.
func lastBit(b uint64) int {
	return max(exponent(b), 1) - bias - fracBits
}

// power is 2 to the power n, for n from leastExp to mostExp.
func power(n int) float64 {
	if n < normalExp {
		return math.Float64frombits(1 << (n - leastExp))
	}
	return math.Float64frombits(uint64(n+bias) << fracBits)
}
