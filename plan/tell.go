package plan

import (
	"strconv"
	"strings"

	"girder/api"
	"girder/quantity"
)

// line is these words, as one line.
func line(words ...string) string {
	return strings.Join(words, " ") + "\n"
}

// jointWords is what a joint that may be is told by.
func jointWords(j api.Joint) []string {
	words := []string{wordJoint, j.Name, whole(j.X), whole(j.Y)}
	if j.Fix == 0 {
		return words
	}
	words = append(words, wordFix)
	words = appendIf(j.Fix&api.FixX != 0, words, wordX)
	words = appendIf(j.Fix&api.FixY != 0, words, wordY)
	return appendIf(j.Fix&api.FixTurn != 0, words, wordTurn)
}

// memberWords is what a member that may be, between these joints, is told by.
func memberWords(m api.Member, joints []api.Joint) []string {
	first := wordBar
	if m.Kind == api.Beam {
		first = wordBeam
	}
	words := []string{first, m.Name, joints[m.A].Name, joints[m.B].Name, float(m.E), float(m.Area)}
	words = appendIf(m.Kind == api.Beam, words, float(m.I))
	words = appendIf(m.HingeA, words, wordHinge, wordA)
	return appendIf(m.HingeB, words, wordHinge, wordB)
}

func appendIf(so bool, words []string, more ...string) []string {
	if so {
		return append(words, more...)
	}
	return words
}

func whole(n int32) string {
	return strconv.Itoa(int(n))
}

// float tells a finite float, of which quantity has no error.
func float(x float64) string {
	text, _ := quantity.Print(x)
	return text
}
