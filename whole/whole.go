// Package whole holds whole numbers of any length and either sign, upon limbs, and what dyads and ratios come to that no limit of right ones holds for. What comes in is never changed, but what goes out may share its limbs: a number's limbs are read alone.
package whole

import (
	"girder/api"
	"girder/limbs"
)

// Number is a whole number: Mag (limbs of 64 bits, the lowest first, no noughts on top), below 0 if Neg is set. The zero value is 0, which has no Neg.
type Number struct {
	Neg bool
	Mag []uint64
}

// Int is n.
func Int(n int64) Number {
	size := uint64(n)
	if n < 0 {
		size = -size // of the least int64 too, whose size no int64 holds
	}
	return Of(n < 0, []uint64{size})
}

// Of is the number of the size mag, which may have noughts on top, below 0 if neg is set.
func Of(neg bool, mag []uint64) Number {
	mag = limbs.Trim(mag)
	return Number{Neg: neg && len(mag) > 0, Mag: mag}
}

// Scaled is d, right or not, over 2 to the power low, which goes into it.
func Scaled(d api.Dyad, low int) Number {
	return Of(d.Neg, limbs.Shift(d.Mag, d.Exp-low))
}

// Extent tells of dyads, right or not, the power of two of their lowest bit, and how many bits there are from that one up to the highest one; 0 and 0, if all are 0.
func Extent(dyads []api.Dyad) (low, width int) {
	high, met := 0, false
	for i := range len(dyads) {
		d := dyads[i]
		top := limbs.Len(d.Mag)
		if top == 0 {
			continue
		}
		top += d.Exp
		bottom := limbs.Zeros(d.Mag) + d.Exp
		if !met {
			low, high, met = bottom, top, true
		}
		low, high = min(low, bottom), max(high, top)
	}
	return low, high - low
}

// Less is a less b, dyads that need not be right; no more need what is told be, however long it is.
func Less(a, b api.Dyad) api.Dyad {
	low, _ := Extent([]api.Dyad{a, b})
	left := Sub(Scaled(a, low), Scaled(b, low))
	return api.Dyad{Neg: left.Neg, Mag: left.Mag, Exp: low}
}

// Times is a times b, dyads that need not be right; no more need what is told be, however long it is.
func Times(a, b api.Dyad) api.Dyad {
	product := Mul(Of(a.Neg, a.Mag), Of(b.Neg, b.Mag))
	return api.Dyad{Neg: product.Neg, Mag: product.Mag, Exp: a.Exp + b.Exp}
}

// CommonDen is the least whole number above 0 with which all of the ratios, right ones, become whole.
func CommonDen(ratios []api.Ratio) Number {
	den := limbs.Put(0, 1)
	for i := range len(ratios) {
		more, _ := limbs.Div(ratios[i].Den, limbs.Common(ratios[i].Den, den, 0))
		den = limbs.Mul(den, more)
	}
	return Of(false, den)
}

// TimesDen is r, a right ratio, times den, with which it becomes whole.
func TimesDen(r api.Ratio, den Number) Number {
	return Mul(Of(r.Neg, r.Num), Over(den, Of(false, r.Den)))
}

// IsZero tells whether a is 0.
func IsZero(a Number) bool {
	return len(a.Mag) == 0
}

// Add is a and b.
func Add(a, b Number) Number {
	return Sub(a, Minus(b))
}

// Sub is a less b.
func Sub(a, b Number) Number {
	switch {
	case a.Neg != b.Neg:
		return Of(a.Neg, limbs.Add(a.Mag, b.Mag))
	case limbs.Cmp(a.Mag, b.Mag) < 0:
		return Of(!a.Neg, limbs.Sub(b.Mag, a.Mag))
	}
	return Of(a.Neg, limbs.Sub(a.Mag, b.Mag))
}

// Minus is 0 less a.
func Minus(a Number) Number {
	return Of(!a.Neg, a.Mag)
}

// Mul is a times b.
func Mul(a, b Number) Number {
	return Of(a.Neg != b.Neg, limbs.Mul(a.Mag, b.Mag))
}

// Over is a over b, which is not 0 and divides it.
func Over(a, b Number) Number {
	quotient, _ := limbs.Div(a.Mag, b.Mag)
	return Of(a.Neg != b.Neg, quotient)
}
