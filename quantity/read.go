package quantity

import (
	"strconv"
	"strings"

	"girder/limbs"
)

const mostPowerDigits = 3 // behind an e

// number is what a number's text says: its digits as a whole number, times 10 to a power.
type number struct {
	neg    bool
	digits string
	power  int
}

// read takes a number's text apart; if s is none, it tells the place of the first byte that can't stand, or the end.
func read(s string) (n number, at int, ok bool) {
	c := cursor{text: s}
	n.neg = c.take("-")
	n.digits = c.takeDigits(len(s))
	if c.take(".") {
		behind := c.takeDigits(len(s))
		n.digits += behind
		n.power = -len(behind)
	}
	if n.digits == "" {
		return number{}, c.at, false
	}
	if c.take("eE") {
		power, isOne := c.takePower()
		if !isOne {
			return number{}, c.at, false
		}
		n.power += power
	}
	return n, c.at, c.at == len(s)
}

// cursor goes through a text byte by byte, and stops where what is wanted is not there.
type cursor struct {
	text string
	at   int
}

// take goes on by one byte, if it is one of these.
func (c *cursor) take(these string) bool {
	if c.at == len(c.text) || strings.IndexByte(these, c.text[c.at]) < 0 {
		return false
	}
	c.at++
	return true
}

// takeDigits goes on by as many digits as there are, up to most of them.
func (c *cursor) takeDigits(most int) string {
	from := c.at
	for c.at-from < most && c.take("0123456789") {
	}
	return c.text[from:c.at]
}

// takePower goes on by what stands behind an e.
func (c *cursor) takePower() (int, bool) {
	from := c.at
	c.take("+-")
	if c.takeDigits(mostPowerDigits) == "" {
		return 0, false
	}
	power, err := strconv.Atoi(c.text[from:c.at])
	return power, err == nil
}

// whole is the whole number of these digits.
func whole(digits string) []uint64 {
	var n []uint64
	for i := range len(digits) {
		n = limbs.Add(limbs.Mul(n, []uint64{10}), []uint64{uint64(digits[i] - '0')})
	}
	return n
}
