package bars

import (
	"girder/api"
	"girder/joints"
	"girder/round"
	"girder/span"
)

// row is a spring's row over the moves of a member's joints: A's x, y, turn, and B's.
type row = [6]int64

// amount is a number above 0: a span that holds it for sure, and one float for it. Both go through the same steps.
type amount struct {
	sure api.Span
	near float64
}

// Springs tells the springs of each member, in order.
func Springs(p api.Plan) ([]api.Spring, api.Errno) {
	if e, _ := Check(p); e != api.OK {
		return nil, e
	}
	var all []api.Spring
	for place, m := range p.Members {
		all = behind(all, place, springs(m, p.Joints[m.A], p.Joints[m.B])...)
	}
	return all, api.OK
}

// behind puts the springs of one more member behind all that there are.
func behind(all []api.Spring, member int, more ...api.Spring) []api.Spring {
	for _, s := range more {
		s.Member = member
		all = append(all, s)
	}
	return all
}

// springs is what a member from a to b resists; which member it is, is told elsewhere.
func springs(m api.Member, a, b api.Joint) []api.Spring {
	dx, dy, l2 := joints.Apart(a, b)
	l, square := length(a, b), exactly(float64(l2)) // exactly: l2 is at most 2^43
	pull := product(exactly(m.E), exactly(m.Area))
	axial := spring(api.SpringAxial, row{-dx, -dy, 0, dx, dy, 0}, quotient(pull, product(square, l)))
	if m.Kind == api.Bar || m.HingeA && m.HingeB {
		return []api.Spring{axial}
	}
	bend := product(exactly(m.E), exactly(m.I))
	across := quotient(product(exactly(3), bend), product(square, square, l))
	switch {
	case m.HingeA:
		return []api.Spring{axial, spring(api.SpringOne, row{-dy, dx, 0, dy, -dx, l2}, across)}
	case m.HingeB:
		return []api.Spring{axial, spring(api.SpringOne, row{-dy, dx, l2, dy, -dx, 0}, across)}
	}
	bow := spring(api.SpringBow, row{-2 * dy, 2 * dx, l2, 2 * dy, -2 * dx, l2}, across)
	ends := spring(api.SpringEnds, row{0, 0, 1, 0, 0, -1}, quotient(bend, l))
	return []api.Spring{axial, bow, ends}
}

func spring(kind uint8, r row, stiff amount) api.Spring {
	return api.Spring{Kind: kind, Row: r, S: stiff.sure, Near: stiff.near}
}

// length is how far a and b are apart.
func length(a, b api.Joint) amount {
	sure, near := joints.Length(a, b)
	return amount{sure: sure, near: near}
}

// exactly is a finite float, which is known for sure.
func exactly(x float64) amount {
	sure, _ := span.Of(x)
	return amount{sure: sure, near: x}
}

// product multiplies from the first one on: each step is rounded by itself.
func product(first amount, more ...amount) amount {
	for _, x := range more {
		first.sure, _ = span.Mul(first.sure, x.sure)
		first.near = round.Mul(first.near, x.near, api.Nearest)
	}
	return first
}

func quotient(a, b amount) amount {
	sure, _ := span.Div(a.sure, b.sure)
	return amount{sure: sure, near: round.Div(a.near, b.near, api.Nearest)}
}
