package rank

import (
	"girder/api"
	"girder/dyad"
	"girder/limbs"
	"girder/ratio"
	"girder/whole"
)

// isSystem tells whether a and b are a system.
func isSystem(a api.Dyads, b []api.Ratio) bool {
	if !within(a.Rows, api.MaxOrder) || a.Cols != a.Rows || len(a.Data) != a.Rows*a.Cols || len(b) != a.Rows {
		return false
	}
	for i := range len(a.Data) {
		if !dyad.Right(a.Data[i]) {
			return false
		}
	}
	for i := range len(b) {
		if !ratio.Right(b[i]) {
			return false
		}
	}
	return true
}

// systemRows is the system in whole numbers, a row for each of a's, with b's number behind it: a times 2 to the power -low, b times den.
func systemRows(a api.Dyads, low int, b []api.Ratio, den whole.Number) [][]whole.Number {
	rows := make([][]whole.Number, a.Rows)
	for i := range a.Rows {
		rows[i] = make([]whole.Number, a.Cols+1)
		for j := range a.Cols {
			rows[i][j] = whole.Scaled(a.Data[i*a.Cols+j], low)
		}
		rows[i][a.Cols] = whole.TimesDen(b[i], den)
	}
	return rows
}

// answers is each of parts over over, times 2 to the power -low, which the rows were made without.
func answers(parts []whole.Number, over whole.Number, low int) ([]api.Ratio, api.Errno) {
	over.Mag = limbs.Shift(over.Mag, max(low, 0))
	list := make([]api.Ratio, len(parts))
	for i := range len(parts) {
		part := parts[i]
		part.Mag = limbs.Shift(part.Mag, max(-low, 0))
		x, e := quotient(part, over)
		if e != api.OK {
			return nil, e
		}
		list[i] = x
	}
	return list, api.OK
}
