package loads

import (
	"girder/api"
	"girder/joints"
	"girder/narrow"
	"girder/ratio"
)

// brought is what is brought to a joint: along x, along y, and as a turn.
type brought = [3]api.Ratio

// combined is what parts come to at each joint, all of them such as may be.
func combined(p api.Plan, l []api.Load, parts []api.Part) []brought {
	all := nothing(len(p.Joints))
	for _, part := range parts {
		factor := exactly(part.Factor)
		for place, b := range together(p, l, part.Case) {
			all[place] = plus(all[place], times(factor, b))
		}
	}
	return all
}

// together is what all loads of that case bring to each joint: summed ahead of their factor, which is long as a rule, they stay short.
func together(p api.Plan, l []api.Load, name string) []brought {
	all := nothing(len(p.Joints))
	bring := func(place int, b brought) { all[place] = plus(all[place], b) }
	for _, load := range l {
		switch {
		case load.Case != name:
			continue
		case load.Kind == api.LoadForce:
			bring(load.At, force(load))
		default:
			m := p.Members[load.At]
			atA, atB := uniform(load, m, p.Joints[m.A], p.Joints[m.B])
			bring(m.A, atA)
			bring(m.B, atB)
		}
	}
	return all
}

// force is what a LoadForce brings to its joint.
func force(load api.Load) brought {
	return brought{counted(load.X), counted(load.Y), counted(load.Turn)}
}

// uniform is what a LoadUniform upon m, a member from a to b, brings to both ends, as DOC.md says (What a plan comes to, 3). All of it comes as fractions of -Q whose numbers stay below 2^47, so that no int64 wraps.
func uniform(load api.Load, m api.Member, a, b api.Joint) (atA, atB brought) {
	dx, dy, l2 := joints.Apart(a, b)
	push := product(counted(load.Y), ratio.Int(-max(dx, -dx))) // -Q
	part := func(num, den int64) api.Ratio { return product(push, fraction(num, den)) }
	// end is F / 2 and lean times T / 8; its turn is -M times turn / den.
	end := func(lean, turn, den int64) brought {
		return brought{part(-lean*dx*dy, 8*l2), part(4*l2+lean*dx*dx, 8*l2), part(turn*dx, den)}
	}
	switch {
	case m.Kind == api.Bar || m.HingeA && m.HingeB:
		return end(0, 0, 1), end(0, 0, 1)
	case m.HingeA:
		return end(-1, 0, 1), end(1, -1, 8)
	case m.HingeB:
		return end(1, 1, 8), end(-1, 0, 1)
	}
	return end(0, 1, 12), end(0, -1, 12)
}

// nothing is what is brought to that many joints where there is no load.
func nothing(many int) []brought {
	all := make([]brought, many)
	for place := range all {
		for k := range all[place] {
			all[place][k] = ratio.Int(0)
		}
	}
	return all
}

func plus(a, b brought) brought {
	var sum brought
	for k := range sum {
		sum[k], _ = ratio.Add(a[k], b[k])
	}
	return sum
}

func times(factor api.Ratio, b brought) brought {
	for k := range b {
		b[k] = product(factor, b[k])
	}
	return b
}

// counted is a narrow float as just the number that it is.
func counted(f float32) api.Ratio {
	return exactly(narrow.Back(f))
}

// exactly is a finite float as a ratio.
func exactly(x float64) api.Ratio {
	r, _ := ratio.Of(x)
	return r
}

// fraction is num over den, which is not 0.
func fraction(num, den int64) api.Ratio {
	r, _ := ratio.Div(ratio.Int(num), ratio.Int(den))
	return r
}

// product meets no error, nor does plus: within the limits of plans, loads and factors no ratio is near to being too long.
func product(a, b api.Ratio) api.Ratio {
	r, _ := ratio.Mul(a, b)
	return r
}
