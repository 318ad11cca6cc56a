package plan

import (
	"slices"
	"strconv"
	"strings"

	"girder/api"
	"girder/bars"
	"girder/joints"
	"girder/quantity"
	"girder/words"
)

const passOver = "#" // begins the first word of a line that says nothing

// reader puts together the plan that the lines of a text say.
type reader struct {
	plan            api.Plan
	joints, members []api.Spot // where the first word of each of them stands
	at              api.Spot   // of the word that is being read
}

// step is where one word of a line may stand. What the line says is read word by word, as each word tells what may stand behind it.
type step struct {
	read func(word string) (step, api.Errno) // tells the step of the word behind, or why this one can't stand
	ends bool                                // whether the line may end ahead of this word
}

// test looks at one word, and keeps what it says, or tells why it can't stand.
type test func(word string) api.Errno

// option is a word that stands as it is, what it brings about, and the step behind it.
type option struct {
	word   string
	take   func()
	behind step
}

// read reads one line; a spot of no error tells that it has no fault.
func (r *reader) read(number int, line string) api.Spot {
	next := step{read: r.open, ends: true}
	for column, word := range words.Of(line) {
		r.at = api.Spot{Line: number, Col: column}
		behind, e := next.read(word)
		if e != api.OK {
			return api.Spot{Line: number, Col: column, Err: e}
		}
		next = behind
	}
	if !next.ends {
		return api.Spot{Line: number, Col: len(line) + 1, Err: api.ErrPlan}
	}
	return api.Spot{}
}

// check tells the spot of the first joint or member that may not be, though its line has no fault.
func (r *reader) check() api.Spot {
	e, place := bars.Check(r.plan)
	spot := api.Spot{}
	switch e {
	case api.OK:
		return spot
	case api.ErrJoint:
		spot = r.joints[place]
	case api.ErrMember:
		spot = r.members[place]
	}
	spot.Err = e
	return spot
}

// open reads a line's first word, which tells what the others are.
func (r *reader) open(word string) (step, api.Errno) {
	switch {
	case strings.HasPrefix(word, passOver):
		return anyWords(), api.OK
	case word == wordJoint:
		return r.joint()
	case word == wordBar:
		return r.member(api.Bar)
	case word == wordBeam:
		return r.member(api.Beam)
	}
	return step{}, api.ErrPlan
}

// joint puts one more joint into the plan, for the line's other words to fill in.
func (r *reader) joint() (step, api.Errno) {
	ahead := r.plan.Joints
	if len(ahead) == api.MaxJoints {
		return step{}, api.ErrLong
	}
	r.joints = append(r.joints, r.at)
	r.plan.Joints = append(ahead, api.Joint{})
	j := &r.plan.Joints[len(ahead)]
	given := func(name string) bool {
		_, there := joints.Find(ahead, name)
		return there
	}
	return row(fixes(j), newName(&j.Name, given), coordinate(&j.X), coordinate(&j.Y)), api.OK
}

// member puts one more member into the plan, for the line's other words to fill in.
func (r *reader) member(kind api.MemberKind) (step, api.Errno) {
	ahead := r.plan
	if len(ahead.Members) == api.MaxMembers {
		return step{}, api.ErrLong
	}
	r.members = append(r.members, r.at)
	r.plan.Members = append(ahead.Members, api.Member{Kind: kind})
	m := &r.plan.Members[len(ahead.Members)]
	given := func(name string) bool {
		_, there := Member(ahead, name)
		return there
	}
	tests := []test{newName(&m.Name, given), end(&m.A, ahead.Joints), end(&m.B, ahead.Joints), number(&m.E), number(&m.Area)}
	if kind == api.Bar {
		return row(oneOf(true), tests...), api.OK
	}
	return row(hinges(m), append(tests, number(&m.I))...), api.OK
}

// row is the step of the first of these tests; behind the last one stands the step last.
func row(last step, tests ...test) step {
	for _, passes := range slices.Backward(tests) {
		behind := last
		last = step{read: func(word string) (step, api.Errno) { return behind, passes(word) }}
	}
	return last
}

// oneOf is the step of a word that is one of these; of none of them the line must be at its end.
func oneOf(ends bool, options ...option) step {
	return step{ends: ends, read: func(word string) (step, api.Errno) {
		for _, o := range options {
			if o.word == word {
				o.take()
				return o.behind, api.OK
			}
		}
		return step{}, api.ErrPlan
	}}
}

// anyWords is the step of a line that is passed over.
func anyWords() step {
	return step{ends: true, read: func(string) (step, api.Errno) { return anyWords(), api.OK }}
}

// fixes is what may stand behind a joint's coordinates.
func fixes(j *api.Joint) step {
	hold := func(what uint8) func() {
		return func() { j.Fix += what }
	}
	turn := option{word: wordTurn, take: hold(api.FixTurn), behind: oneOf(true)}
	y := option{word: wordY, take: hold(api.FixY), behind: oneOf(true, turn)}
	x := option{word: wordX, take: hold(api.FixX), behind: oneOf(true, y, turn)}
	return oneOf(true, option{word: wordFix, take: hold(0), behind: oneOf(false, x, y, turn)})
}

// hinges is what may stand behind a beam's numbers.
func hinges(m *api.Member) step {
	hinge := func(ends ...option) step {
		return oneOf(true, option{word: wordHinge, take: func() {}, behind: oneOf(false, ends...)})
	}
	b := option{word: wordB, take: func() { m.HingeB = true }, behind: oneOf(true)}
	a := option{word: wordA, take: func() { m.HingeA = true }, behind: hinge(b)}
	return hinge(a, b)
}

// newName tests a name that has not been given yet.
func newName(to *string, given func(name string) bool) test {
	return func(word string) api.Errno {
		switch {
		case !isName(word):
			return api.ErrPlan
		case given(word):
			return api.ErrName
		}
		*to = strings.Clone(word) // a piece of the text would keep all of it
		return api.OK
	}
}

// end tests the name of a joint at which a member ends.
func end(to *int, ahead []api.Joint) test {
	return func(word string) api.Errno {
		if !isName(word) {
			return api.ErrPlan
		}
		place, there := joints.Find(ahead, word)
		if !there {
			return api.ErrName
		}
		*to = place
		return api.OK
	}
}

// coordinate tests a whole number: only the text by which it would be told says one.
func coordinate(to *int32) test {
	return func(word string) api.Errno {
		n, err := strconv.Atoi(word)
		if err != nil || strconv.Itoa(n) != word || n < -api.MaxCoord || n > api.MaxCoord {
			return api.ErrPlan
		}
		*to = int32(n)
		return api.OK
	}
}

// number tests a number's text.
func number(to *float64) test {
	return func(word string) api.Errno {
		x, e, _ := quantity.Parse(word, api.Nearest)
		*to = x
		return e
	}
}

// isName asks of a joint that has no other fault, as every name is what a joint's is.
func isName(word string) bool {
	e, _ := joints.Check([]api.Joint{{Name: word}})
	return e == api.OK
}
