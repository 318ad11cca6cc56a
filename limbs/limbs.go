// Package limbs holds whole numbers, 0 and above, of any length: lists of limbs of 64 bits, the lowest first. The layers that reckon exactly stand on it. What comes in may have noughts on top, and is never changed; what goes out is new, but for Trim's, and has none.
package limbs

import (
	"cmp"
	"math"
	"math/bits"
)

// Bits is how many bits a limb has.
const Bits = 64

// Put puts the limbs of row in their places, the first one at the place low, with noughts below.
func Put(low int, row ...uint64) []uint64 {
	row = Trim(row)
	if len(row) == 0 {
		return nil
	}
	out := make([]uint64, low+len(row))
	for i := range len(row) {
		out[low+i] = row[i]
	}
	return out
}

// Trim is x without noughts on top, in the same memory.
func Trim(x []uint64) []uint64 {
	return x[:(Len(x)+Bits-1)/Bits]
}

// At is the limb i of x; beyond its limbs, either way, there are noughts.
func At(x []uint64, i int) uint64 {
	if i < 0 || i >= len(x) {
		return 0
	}
	return x[i]
}

// Window is the 64 bits of x from the bit low on; beyond its limbs, either way, there are noughts.
func Window(x []uint64, low int) uint64 {
	i := low >> 6 // rounds down below 0 too
	off := uint(low & (Bits - 1))
	return At(x, i)>>off | At(x, i+1)<<(Bits-off)
}

// Len is the number of bits up to the highest one that is set.
func Len(x []uint64) int {
	for i := range len(x) {
		if k := len(x) - 1 - i; x[k] != 0 {
			return k*Bits + bits.Len64(x[k])
		}
	}
	return 0
}

// Zeros is the number of bits below the lowest one that is set; 0 if none is.
func Zeros(x []uint64) int {
	for i := range len(x) {
		if x[i] != 0 {
			return i*Bits + bits.TrailingZeros64(x[i])
		}
	}
	return 0
}

// Shift is x times 2 to the power by; by below 0, without the bits that fall off below.
func Shift(x []uint64, by int) []uint64 {
	width := Len(x)
	if width == 0 || width <= -by {
		return nil
	}
	out := make([]uint64, (width+by+Bits-1)/Bits)
	for i := range len(out) {
		out[i] = Window(x, i*Bits-by)
	}
	return out
}

// Cmp tells whether a is less than b, as great, or greater: -1, 0, 1.
func Cmp(a, b []uint64) int {
	n := max(len(a), len(b))
	for i := range n {
		if c := cmp.Compare(At(a, n-1-i), At(b, n-1-i)); c != 0 {
			return c
		}
	}
	return 0
}

// Add is a and b.
func Add(a, b []uint64) []uint64 {
	return each(a, b, bits.Add64)
}

// Sub is a less b, which is not greater.
func Sub(a, b []uint64) []uint64 {
	return each(a, b, bits.Sub64)
}

// each does step at each place, from the lowest one on, with what the one below carries.
func each(a, b []uint64, step func(x, y, carry uint64) (uint64, uint64)) []uint64 {
	out := make([]uint64, max(len(a), len(b))+1)
	carry := uint64(0)
	for i := range len(out) {
		out[i], carry = step(At(a, i), At(b, i), carry)
	}
	return Trim(out)
}

// Mul is a times b.
func Mul(a, b []uint64) []uint64 {
	out := make([]uint64, len(a)+len(b))
	for i := range len(a) {
		out[i+len(b)] = addTimes(out[i:i+len(b)], b, a[i])
	}
	return Trim(out)
}

// Div tells how often b, which is not 0, goes into a, and what is left.
func Div(a, b []uint64) (quotient, rest []uint64) {
	b = Trim(b)
	up := bits.LeadingZeros64(b[len(b)-1]) // guesses are near only if the divisor's highest bit is set
	by := Shift(b, up)
	left := make([]uint64, max(len(a), len(b))+1)
	for i := range len(left) {
		left[i] = Window(a, i*Bits-up)
	}
	quotient = make([]uint64, len(left)-len(by))
	for i := range len(quotient) {
		at := len(quotient) - 1 - i
		quotient[at] = takeOff(left[at:at+len(by)+1], by)
	}
	return Trim(quotient), Shift(left, -up)
}

// takeOff takes by off from, as often as it goes, and tells how often. It has one limb fewer, and goes less than 2^64 times; its highest bit is set.
func takeOff(from, by []uint64) uint64 {
	n := len(by)
	often := uint64(math.MaxUint64)
	if from[n] < by[n-1] {
		often, _ = bits.Div64(from[n], from[n-1], by[n-1])
	}
	lack := takeTimes(from, by, often)
	for lack != 0 { // the guess was one too great, or two
		often--
		carry := uint64(0)
		from[n], carry = bits.Add64(from[n], addTimes(from[:n], by, 1), 0)
		lack -= carry
	}
	return often
}

// addTimes adds x times by to to, which is as long, and tells what is carried over its end.
func addTimes(to, x []uint64, by uint64) uint64 {
	carry := uint64(0)
	to = to[:len(x)] // told ahead, no place needs to be looked at again
	for i := range len(x) {
		high, low := bits.Mul64(x[i], by)
		low, over := bits.Add64(low, to[i], 0)
		high, _ = bits.Add64(high, 0, over) // what is multiplied leaves room for both
		low, over = bits.Add64(low, carry, 0)
		carry, _ = bits.Add64(high, 0, over)
		to[i] = low
	}
	return carry
}

// takeTimes takes x times by off from, which is longer, and tells whether 1 is lacking above its end.
func takeTimes(from, x []uint64, by uint64) uint64 {
	carry := uint64(0)
	beside, above := from[:len(x)], from[len(x):]
	for i := range len(x) {
		high, low := bits.Mul64(x[i], by)
		low, over := bits.Add64(low, carry, 0)
		high, _ = bits.Add64(high, 0, over)
		beside[i], over = bits.Sub64(beside[i], low, 0)
		carry, _ = bits.Add64(high, 0, over)
	}
	for i := range len(above) {
		above[i], carry = bits.Sub64(above[i], carry, 0)
	}
	return carry
}

// Common is the greatest number that divides both a and b, neither of them 0; none, if it has fewer than least bits.
func Common(a, b []uint64, least int) []uint64 {
	zerosA, zerosB := Zeros(a), Zeros(b)
	twos := min(zerosA, zerosB)
	a, b = Shift(a, -zerosA), Shift(b, -zerosB)
	if Cmp(a, b) < 0 {
		a, b = b, a
	}
	for len(b) > 0 && Len(b)+twos >= least {
		a, b = onward(a, b)
	}
	if len(b) > 0 || Len(a)+twos < least {
		return nil
	}
	return Shift(a, twos)
}

// onward goes on from a and b, the lesser one, to two later numbers of Euclid's row, which have the same divisors in common.
func onward(a, b []uint64) (later, last []uint64) {
	if len(a) == 1 {
		return []uint64{commonLimb(a[0], b[0])}, nil
	}
	low := Len(a) - headBits
	m := foresee(int64(Window(a, low)), int64(Window(b, low)))
	if m.b == [2]int64{0, 1} { // no step could be foreseen
		_, rest := Div(a, b)
		return b, rest
	}
	return mixed(a, b, m.a), mixed(a, b, m.b)
}

// commonLimb is Common of numbers of one limb.
func commonLimb(a, b uint64) uint64 {
	for b != 0 {
		a, b = b, a%b
	}
	return a
}

// headBits is how many of the highest bits steps are foreseen by: so many that no int64 wraps.
const headBits = 62

// mixture is how two numbers of Euclid's row come out of two earlier ones: each of them so many times the one and so many times the other, added.
type mixture struct {
	a, b [2]int64
}

// foresee tells the steps of Euclid's row that the heads of two numbers, the second one the lesser, tell for sure, whatever stands below these (Lehmer's way, Knuth's Algorithm L): each quotient is the same at both ends of what it may come of.
func foresee(headA, headB int64) mixture {
	m := mixture{a: [2]int64{1, 0}, b: [2]int64{0, 1}}
	for headB+m.b[0] != 0 && headB+m.b[1] != 0 {
		q := (headA + m.a[0]) / (headB + m.b[0])
		if q != (headA+m.a[1])/(headB+m.b[1]) {
			break
		}
		m = mixture{a: m.b, b: [2]int64{m.a[0] - q*m.b[0], m.a[1] - q*m.b[1]}}
		headA, headB = headB, headA-q*headB
	}
	return m
}

// mixed is a and b, each times its number, added; one of the numbers is not above 0, the sum not below it.
func mixed(a, b []uint64, times [2]int64) []uint64 {
	out := make([]uint64, max(len(a), len(b))+1)
	plus, minus := times[0], times[1]
	if minus > 0 {
		a, b, plus, minus = b, a, minus, plus
	}
	out[len(a)] = addTimes(out[:len(a)], a, uint64(plus))
	takeTimes(out, b, uint64(-minus))
	return Trim(out)
}
