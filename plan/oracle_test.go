package plan_test

import (
	"math"
	"math/big"
	"math/rand"
	"regexp"
	"slices"
	"strconv"
	"strings"

	"girder/api"
	"girder/bars"
)

// The kinds of words that do not stand as they are, in the rows of forms.
const (
	aJoint  = "NEW JOINT"
	aMember = "NEW MEMBER"
	anEnd   = "END"
	aWhole  = "WHOLE"
	aNumber = "NUMBER"
)

var (
	wordShape   = regexp.MustCompile(`[^ ]+`)
	nameShape   = regexp.MustCompile(`^[a-z][a-z0-9]{0,7}$`)
	wholeShape  = regexp.MustCompile(`^(0|-?[1-9][0-9]*)$`)
	numberShape = regexp.MustCompile(`^-?([0-9]+\.?[0-9]*|\.[0-9]+)([eE][+-]?[0-9]{1,3})?$`)
)

// forms is each row of words that a line may be, written out.
func forms() [][]string {
	var l [][]string
	for _, tail := range []string{"", " fix x", " fix y", " fix turn", " fix x y", " fix x turn", " fix y turn", " fix x y turn"} {
		l = append(l, append([]string{"joint", aJoint, aWhole, aWhole}, strings.Fields(tail)...))
	}
	l = append(l, []string{"bar", aMember, anEnd, anEnd, aNumber, aNumber})
	for _, tail := range []string{"", " hinge a", " hinge b", " hinge a hinge b"} {
		l = append(l, append([]string{"beam", aMember, anEnd, anEnd, aNumber, aNumber, aNumber}, strings.Fields(tail)...))
	}
	return l
}

// said is what the lines ahead say, and where.
type said struct {
	plan            api.Plan
	joints, members []api.Spot
}

// stands tells the error of a word, if it is to be of that kind.
func (s *said) stands(kind, word string) api.Errno {
	isJoint := slices.ContainsFunc(s.plan.Joints, func(j api.Joint) bool { return j.Name == word })
	isMember := slices.ContainsFunc(s.plan.Members, func(m api.Member) bool { return m.Name == word })
	name := nameShape.MatchString(word)
	switch kind {
	case aJoint, aMember, anEnd:
		if !name {
			return api.ErrPlan
		}
		if kind == aJoint && isJoint || kind == aMember && isMember || kind == anEnd && !isJoint {
			return api.ErrName
		}
		return api.OK
	case aWhole:
		n, ok := new(big.Int).SetString(word, 10)
		if !wholeShape.MatchString(word) || !ok || n.CmpAbs(big.NewInt(1<<20)) > 0 {
			return api.ErrPlan
		}
		return api.OK
	case aNumber:
		x, _ := strconv.ParseFloat(word, 64)
		switch {
		case len(word) > 64:
			return api.ErrLong
		case !numberShape.MatchString(word):
			return api.ErrQuantity
		case math.IsInf(x, 0):
			return api.ErrOver
		}
		return api.OK
	}
	if kind != word {
		return api.ErrPlan
	}
	return api.OK
}

// line looks which rows of words are left behind each word.
func (s *said) line(number int, line string) api.Spot {
	left := forms()
	places := wordShape.FindAllStringIndex(line, -1)
	if len(places) == 0 || line[places[0][0]] == '#' {
		return api.Spot{}
	}
	var ws []string
	for i, at := range places {
		word := line[at[0]:at[1]]
		spot := api.Spot{Line: number, Col: at[0] + 1, Err: api.ErrPlan}
		var still [][]string
		for _, form := range left {
			if i >= len(form) {
				continue
			}
			e := s.stands(form[i], word)
			if e == api.OK {
				still = append(still, form)
			} else if spot.Err == api.ErrPlan {
				spot.Err = e
			}
		}
		if i == 0 && (word == "joint" && len(s.plan.Joints) == 16 || (word == "bar" || word == "beam") && len(s.plan.Members) == 48) {
			still, spot.Err = nil, api.ErrLong
		}
		if len(still) == 0 {
			return spot
		}
		left, ws = still, append(ws, word)
	}
	if !slices.ContainsFunc(left, func(form []string) bool { return len(form) == len(ws) }) {
		return api.Spot{Line: number, Col: len(line) + 1, Err: api.ErrPlan}
	}
	s.add(ws, api.Spot{Line: number, Col: places[0][0] + 1})
	return api.Spot{}
}

// add takes a line without a fault for what it says.
func (s *said) add(ws []string, at api.Spot) {
	float := func(word string) float64 {
		x, _ := strconv.ParseFloat(word, 64)
		return x
	}
	if ws[0] == "joint" {
		x, _ := strconv.Atoi(ws[2])
		y, _ := strconv.Atoi(ws[3])
		j := api.Joint{Name: ws[1], X: int32(x), Y: int32(y)}
		for bit, word := range []string{"x", "y", "turn"} {
			if slices.Contains(ws[4:], word) {
				j.Fix |= 1 << bit
			}
		}
		s.plan.Joints, s.joints = append(s.plan.Joints, j), append(s.joints, at)
		return
	}
	place := func(word string) int {
		return slices.IndexFunc(s.plan.Joints, func(j api.Joint) bool { return j.Name == word })
	}
	m := api.Member{Name: ws[1], Kind: api.Bar, A: place(ws[2]), B: place(ws[3]), E: float(ws[4]), Area: float(ws[5])}
	if ws[0] == "beam" {
		m.Kind, m.I = api.Beam, float(ws[6])
		m.HingeA, m.HingeB = slices.Contains(ws[7:], "a"), slices.Contains(ws[7:], "b")
	}
	s.plan.Members, s.members = append(s.plan.Members, m), append(s.members, at)
}

// byWords is what Parse must tell, by the chapter's words.
func byWords(text string) (api.Plan, api.Spot) {
	if len(text) > 65536 {
		return api.Plan{}, api.Spot{Line: 1, Col: 1, Err: api.ErrLong}
	}
	var s said
	for i, line := range strings.Split(text, "\n") {
		if spot := s.line(i+1, line); spot != (api.Spot{}) {
			return api.Plan{}, spot
		}
	}
	e, place := bars.Check(s.plan)
	switch e {
	case api.OK:
		return s.plan, api.Spot{}
	case api.ErrJoint:
		return api.Plan{}, api.Spot{Line: s.joints[place].Line, Col: s.joints[place].Col, Err: e}
	}
	return api.Plan{}, api.Spot{Line: s.members[place].Line, Col: s.members[place].Col, Err: e}
}

// equal is the chapter's words of Same, field by field.
func equal(a, b api.Plan) bool {
	same := func(x, y float64) bool {
		return math.Float64bits(x) == math.Float64bits(y) || x != x && y != y
	}
	if len(a.Joints) != len(b.Joints) || len(a.Members) != len(b.Members) {
		return false
	}
	for i, j := range a.Joints {
		k := b.Joints[i]
		if j.Name != k.Name || j.X != k.X || j.Y != k.Y || j.Fix != k.Fix {
			return false
		}
	}
	for i, m := range a.Members {
		n := b.Members[i]
		if m.Name != n.Name || m.Kind != n.Kind || m.A != n.A || m.B != n.B || m.HingeA != n.HingeA || m.HingeB != n.HingeB {
			return false
		}
		if !same(m.E, n.E) || !same(m.Area, n.Area) || !same(m.I, n.I) {
			return false
		}
	}
	return true
}

// copied is p in memory of its own.
func copied(p api.Plan) api.Plan {
	return api.Plan{Joints: slices.Clone(p.Joints), Members: slices.Clone(p.Members)}
}

// anyNumber is one that E, Area, I may be, now and then at an edge.
func anyNumber(r *rand.Rand) float64 {
	switch r.Intn(6) {
	case 0:
		return 0x1p-60
	case 1:
		return 0x1p60
	case 2, 3:
		return float64(1 + r.Intn(1000))
	}
	return math.Ldexp(1+r.Float64(), r.Intn(120)-60)
}

func anyCoordinate(r *rand.Rand) int32 {
	const edge = 1 << 20
	switch r.Intn(4) {
	case 0:
		return int32(r.Intn(2*edge+1)) - edge
	case 1:
		return edge - 2*edge*int32(r.Intn(2))
	}
	return int32(r.Intn(21)) - 10
}

// name is another one for each number up to 17575, of one to eight bytes.
func name(i int) string {
	text := string(rune('a'+i%26)) + strconv.Itoa(i/26)
	return (text + "zzzzzz")[:min(8, len(text)+i%3)]
}

// anyPlan is one that may be, with at most so many joints and members.
func anyPlan(r *rand.Rand, joints, members int) api.Plan {
	var p api.Plan
	points := map[[2]int32]bool{}
	for range r.Intn(joints + 1) {
		j := api.Joint{Name: name(len(p.Joints)), X: anyCoordinate(r), Y: anyCoordinate(r), Fix: uint8(r.Intn(8))}
		if at := [2]int32{j.X, j.Y}; !points[at] {
			points[at] = true
			p.Joints = append(p.Joints, j)
		}
	}
	if len(p.Joints) < 2 {
		return p
	}
	for range r.Intn(members + 1) {
		a, b := r.Intn(len(p.Joints)), r.Intn(len(p.Joints)-1)
		if b >= a {
			b++
		}
		m := api.Member{Name: name(len(p.Members)), Kind: api.Bar, A: a, B: b, E: anyNumber(r), Area: anyNumber(r)}
		if r.Intn(2) == 0 {
			m.Kind, m.I, m.HingeA, m.HingeB = api.Beam, anyNumber(r), r.Intn(2) == 0, r.Intn(2) == 0
		}
		p.Members = append(p.Members, m)
	}
	return p
}

// told is p's text by the chapter's words, with the numbers as number tells them.
func told(p api.Plan, number func(x float64) string) string {
	text := ""
	for _, j := range p.Joints {
		text += "joint " + j.Name + " " + strconv.Itoa(int(j.X)) + " " + strconv.Itoa(int(j.Y))
		text += []string{"", " fix x", " fix y", " fix x y", " fix turn", " fix x turn", " fix y turn", " fix x y turn"}[j.Fix] + "\n"
	}
	for _, m := range p.Members {
		text += []string{"", "bar ", "beam "}[m.Kind] + m.Name + " " + p.Joints[m.A].Name + " " + p.Joints[m.B].Name
		text += " " + number(m.E) + " " + number(m.Area)
		if m.Kind == api.Beam {
			text += " " + number(m.I)
		}
		if m.HingeA {
			text += " hinge a"
		}
		if m.HingeB {
			text += " hinge b"
		}
		text += "\n"
	}
	return text
}

// plainly is a float by the least digits, with an e or without one.
func plainly(x float64) string {
	format := byte('f')
	if x < 1e-4 || x >= 1e16 {
		format = 'e'
	}
	text := strconv.FormatFloat(x, format, -1, 64)
	return strings.NewReplacer("e+0", "e", "e-0", "e-", "e+", "e").Replace(text)
}
