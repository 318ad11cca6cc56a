package quantity

import (
	"strconv"
	"strings"

	"girder/api"
	"girder/bits"
	"girder/limbs"
)

// The powers of a first digit with which Print tells no e.
const (
	leastPlain = -4
	mostPlain  = 15
)

// The logarithm of 2, to the base of ten, times 2 to the power logBits: near enough to tell the first power of every power of two that is a float.
const (
	logOfTwo = 315653
	logBits  = 20
)

// fewest tells the digits of Print, and the power of the first one, of a finite float above 0.
func fewest(size float64) (digits string, k int) {
	ten := tens()
	// It ends: numbers of 17 digits stand closer than floats do.
	for low := firstPower(size, ten); ; low-- {
		c := cutAt(size, low, ten)
		if count, ok := c.told(size); ok {
			digits, k = spell(count, low)
			return strings.TrimRight(digits, "0"), k // 9 and 1 are spelt 10, which has but one digit
		}
	}
}

// rounded tells n digits, and the power of the first one, of a finite float above 0, rounded by m.
func rounded(size float64, n int, m api.Mode) (digits string, k int) {
	ten := tens()
	low := firstPower(size, ten) - n + 1
	c := cutAt(size, low, ten)
	digits, k = spell(c.round(m), low)
	return digits[:n], k // rounded up to the next power of ten, it is spelt with a nought too many
}

// spell tells the digits of count times 10 to the power low, and the power of the first one.
func spell(count uint64, low int) (digits string, k int) {
	digits = strconv.FormatUint(count, 10)
	return digits, low + len(digits) - 1
}

// firstPower is the power of the first digit of a finite float above 0.
func firstPower(size float64, ten func(n int) []uint64) int {
	p, _ := bits.Split(size)
	highest := p.Exp + limbs.Len([]uint64{p.Frac}) - 1
	guess := highest * logOfTwo >> logBits // that of the power of two below: what stands above it, and below the next one, has the same, or one more
	if cutAt(size, guess+1, ten).count > 0 {
		return guess + 1
	}
	return guess
}

// cut is the size of a float, cut at a power of ten: it is count times that power, and rest over unit of it. The floats next to it stand below over unit, and above over unit, of that power away.
type cut struct {
	count                    uint64
	rest, unit, below, above []uint64
}

// cutAt cuts a finite float above 0 at 10 to the power low, which goes into it less than 2^64 times.
func cutAt(size float64, low int, ten func(n int) []uint64) cut {
	p, _ := bits.Split(size)
	down, up := gap(bits.Next(size, false)), gap(size)
	// Told by the lesser gap, the float and both gaps are whole numbers.
	c := cut{
		unit:  limbs.Shift(ten(max(low, 0)), max(-down, 0)),
		below: limbs.Shift(ten(max(-low, 0)), max(down, 0)),
	}
	c.above = limbs.Shift(c.below, up-down)
	count, rest := limbs.Div(limbs.Mul(limbs.Shift([]uint64{p.Frac}, p.Exp-down), c.below), c.unit)
	c.count, c.rest = limbs.At(count, 0), rest
	return c
}

// gap is the power of two by which the float above a finite one stands away from it.
func gap(size float64) int {
	ulp, _ := bits.Ulp(size)
	p, _ := bits.Split(ulp)
	return p.Exp
}

// told tells which whole number of the cut's powers of ten is read, to Nearest, as size, which was cut: of two the nearer one.
func (c cut) told(size float64) (count uint64, ok bool) {
	farthest := -1 // what lies in the middle between two floats is read as the one whose last bit is 0
	if evenFloat(size) {
		farthest = 0
	}
	lower := limbs.Cmp(twice(c.rest), c.below) <= farthest
	upper := limbs.Cmp(twice(limbs.Sub(c.unit, c.rest)), c.above) <= farthest
	switch {
	case lower && upper:
		return c.round(api.Nearest), true
	case upper:
		return c.count + 1, true
	}
	return c.count, lower
}

// round tells the whole number of the cut's powers of ten to which what was cut is rounded by m.
func (c cut) round(m api.Mode) uint64 {
	if len(c.rest) > 0 && c.upward(m) {
		return c.count + 1
	}
	return c.count
}

// upward tells whether a cut that leaves a rest is rounded up by m.
func (c cut) upward(m api.Mode) bool {
	switch m {
	case api.Down, api.Zero:
		return false
	case api.Up:
		return true
	}
	half := limbs.Cmp(twice(c.rest), c.unit)
	return half > 0 || half == 0 && c.count%2 == 1
}

func twice(x []uint64) []uint64 {
	return limbs.Shift(x, 1)
}

// evenFloat tells whether the last bit of a finite float above 0 is 0.
func evenFloat(size float64) bool {
	p, _ := bits.Split(size)
	return p.Exp > gap(size)
}

// plain tells digits, the first one of the power k, without an e.
func plain(digits string, k int) string {
	switch {
	case k < 0:
		return "0." + strings.Repeat("0", -k-1) + digits
	case len(digits) <= k+1:
		return digits + strings.Repeat("0", k+1-len(digits))
	}
	return digits[:k+1] + "." + digits[k+1:]
}

// withPower tells digits, the first one of the power k, with an e.
func withPower(digits string, k int) string {
	if len(digits) > 1 {
		digits = digits[:1] + "." + digits[1:]
	}
	return digits + "e" + strconv.Itoa(k)
}

func sign(neg bool) string {
	if neg {
		return "-"
	}
	return ""
}
