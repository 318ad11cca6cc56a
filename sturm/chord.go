package sturm

import (
	"girder/api"
)

const (
	leastMeasure = 0x1p-60 // of props and lengths
	mostMeasure  = 0x1p60  // of these, and of a push
)

// Chord tells the chain of a row of links under a push, held to the side by a prop at each joint between two of them.
func Chord(props, lengths []float64, push float64) (api.Chain, api.Errno) {
	n, both := len(props), [2][]float64{props, lengths}
	switch {
	case n < 1 || n > mostRows || len(lengths) != n+1:
		return api.Chain{}, api.ErrShape
	case !all(both, finite) || !finite(push):
		return api.Chain{}, api.ErrNumber
	case !all(both, measure) || push < 0 || push > mostMeasure:
		return api.Chain{}, api.ErrArg
	}
	c := api.Chain{Diag: make([]float64, n), Off: make([]float64, n-1)}
	for i := range n {
		before, behind := float64(push/lengths[i]), float64(push/lengths[i+1])
		c.Diag[i] = float64(props[i] - float64(before+behind))
		if i < n-1 {
			c.Off[i] = behind
		}
	}
	return c, api.OK
}

// Least tells the floats next to each other of which the first one, as a push, does not make the chord give way, and the second one does.
func Least(props, lengths []float64, most float64) (float64, float64, api.Errno) {
	if _, err := Chord(props, lengths, most); err != api.OK {
		return 0, 0, err
	}
	gives := func(push float64) bool {
		c, _ := Chord(props, lengths, push)
		return below(c, 0) > 0
	}
	if !gives(most) {
		return 0, 0, api.ErrSturm
	}
	lo, hi := turn(0, most, gives)
	return lo, hi, api.OK
}

// measure tells whether a prop, or a length, may be x.
func measure(x float64) bool {
	return x >= leastMeasure && x <= mostMeasure
}
