package bars

import (
	"girder/api"
	"girder/ratio"
	"girder/whole"
)

// Stretch tells by how much each spring is stretched by that move.
func Stretch(p api.Plan, by []api.Ratio) ([]api.Ratio, api.Errno) {
	all, e := Springs(p)
	if e != api.OK {
		return nil, e
	}
	places := unknowns(p)
	if len(by) != places.N || !right(by...) {
		return nil, api.ErrShape
	}
	out := make([]api.Ratio, len(all))
	for i, s := range all {
		m := p.Members[s.Member]
		out[i], e = stretch(s.Row, moves(s.Row, places.Of[m.A], places.Of[m.B], by))
		if e != api.OK {
			return nil, e
		}
	}
	return out, api.OK
}

func right(l ...api.Ratio) bool {
	for _, r := range l {
		if !ratio.Right(r) {
			return false
		}
	}
	return true
}

// moves is what a member's joints, whose unknowns a and b are, move by; 0 where the row has 0, so that no long number is reckoned with for nothing.
func moves(r row, a, b [3]int, by []api.Ratio) [6]api.Ratio {
	at := [6]int{a[0], a[1], a[2], b[0], b[1], b[2]}
	var out [6]api.Ratio
	for i, unknown := range at {
		out[i] = ratio.Int(0)
		if r[i] != 0 && unknown != none {
			out[i] = by[unknown]
		}
	}
	return out
}

// stretch is the sum of the row's numbers times the moves. It is made right at its end alone: what comes up on the way may be too long, though the sum is not.
func stretch(r row, by [6]api.Ratio) (api.Ratio, api.Errno) {
	den := whole.CommonDen(by[:])
	sum := whole.Int(0)
	for i, n := range r {
		sum = whole.Add(sum, whole.Mul(whole.Int(n), whole.TimesDen(by[i], den)))
	}
	return ratio.Norm(api.Ratio{Neg: sum.Neg, Num: sum.Mag, Den: den.Mag})
}
