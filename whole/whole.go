// Package whole holds whole numbers of any length and either sign, upon limbs. What comes in is never changed, but what goes out may share its limbs: a number's limbs are read alone.
package whole

import (
	"girder/limbs"
)

// Number is a whole number: Mag (limbs of 64 bits, the lowest first, no noughts on top), below 0 if Neg is set. The zero value is 0, which has no Neg.
type Number struct {
	Neg bool
	Mag []uint64
}

// Int is n.
func Int(n int64) Number {
	size := uint64(n)
	if n < 0 {
		size = -size // of the least int64 too, whose size no int64 holds
	}
	return Of(n < 0, []uint64{size})
}

// Of is the number of the size mag, which may have noughts on top, below 0 if neg is set.
func Of(neg bool, mag []uint64) Number {
	mag = limbs.Trim(mag)
	return Number{Neg: neg && len(mag) > 0, Mag: mag}
}

// IsZero tells whether a is 0.
func IsZero(a Number) bool {
	return len(a.Mag) == 0
}

// Sub is a less b.
func Sub(a, b Number) Number {
	switch {
	case a.Neg != b.Neg:
		return Of(a.Neg, limbs.Add(a.Mag, b.Mag))
	case limbs.Cmp(a.Mag, b.Mag) < 0:
		return Of(!a.Neg, limbs.Sub(b.Mag, a.Mag))
	}
	return Of(a.Neg, limbs.Sub(a.Mag, b.Mag))
}

// Mul is a times b.
func Mul(a, b Number) Number {
	return Of(a.Neg != b.Neg, limbs.Mul(a.Mag, b.Mag))
}

// Over is a over b, which is not 0 and divides it.
func Over(a, b Number) Number {
	quotient, _ := limbs.Div(a.Mag, b.Mag)
	return Of(a.Neg != b.Neg, quotient)
}
