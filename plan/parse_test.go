package plan_test

import (
	"math"
	"math/rand"
	"slices"
	"strconv"
	"strings"
	"testing"

	"girder/api"
	"girder/plan"
)

const two = "joint a 0 0\njoint b 1 0\n" // two lines, behind which members may stand

// example is the chapter's.
const example = "joint a 0 0 fix x y\njoint b 300 0 fix y\njoint c 150 -200\nbar ab a b 210000 500\nbar ac a c 2.1e5 500\nbeam bc b c 2.1e5 500 8e6 hinge a hinge b\n"

var minusNought = math.Copysign(0, -1)

func examplePlan() api.Plan {
	return api.Plan{
		Joints: []api.Joint{{Name: "a", Fix: 3}, {Name: "b", X: 300, Fix: 2}, {Name: "c", X: 150, Y: -200}},
		Members: []api.Member{
			{Name: "ab", Kind: api.Bar, A: 0, B: 1, E: 210000, Area: 500},
			{Name: "ac", Kind: api.Bar, A: 0, B: 2, E: 210000, Area: 500},
			{Name: "bc", Kind: api.Beam, A: 1, B: 2, HingeA: true, HingeB: true, E: 210000, Area: 500, I: 8000000},
		},
	}
}

// says fails unless text says p.
func says(t *testing.T, text string, p api.Plan) {
	t.Helper()
	if got, spot := plan.Parse(text); spot != (api.Spot{}) || !equal(got, p) {
		t.Errorf("%.200q: %+v, %v, not %+v", text, got, spot, p)
	}
	agrees(t, text)
}

// faulty fails unless text is refused there, and for that.
func faulty(t *testing.T, text string, line, col int, e api.Errno) {
	t.Helper()
	if got, spot := plan.Parse(text); spot != (api.Spot{Line: line, Col: col, Err: e}) || len(got.Joints)+len(got.Members) != 0 {
		t.Errorf("%.200q: %+v, %v, not at %d, %d: %d", text, got, spot, line, col, e)
	}
	agrees(t, text)
}

// agrees fails unless Parse tells what the chapter's words do.
func agrees(t *testing.T, text string) {
	t.Helper()
	want, at := byWords(text)
	if got, spot := plan.Parse(text); spot != at || !equal(got, want) {
		t.Fatalf("%.400q: %+v, %v, not %+v, %v", text, got, spot, want, at)
	}
}

// oneJoint is the plan of a joint alone.
func oneJoint(name string, x, y int32, fix uint8) api.Plan {
	return api.Plan{Joints: []api.Joint{{Name: name, X: x, Y: y, Fix: fix}}}
}

// between is the plan of the two lines, with these members.
func between(members ...api.Member) api.Plan {
	return api.Plan{Joints: []api.Joint{{Name: "a"}, {Name: "b", X: 1}}, Members: members}
}

// P20.1, examples 1 and 4.
func TestExamples(t *testing.T) {
	says(t, example, examplePlan())
	says(t, "", api.Plan{})
	if s, e := plan.Print(api.Plan{}); s != "" || e != api.OK {
		t.Error(s, e)
	}
	if at, ok := plan.Member(examplePlan(), "ac"); at != 1 || !ok {
		t.Error(at, ok)
	}
	s, e := plan.Print(examplePlan())
	if want := strings.NewReplacer("2.1e5", "210000", "8e6", "8000000").Replace(example); s != want || e != api.OK {
		t.Error(s, e)
	}
}

// P20.1, examples 2 and 3.
func TestExampleFaults(t *testing.T) {
	faulty(t, "joint a 0", 1, 10, api.ErrPlan)
	faulty(t, "joint A 0 0", 1, 7, api.ErrPlan)
	faulty(t, "joint a 0 00", 1, 11, api.ErrPlan)
	faulty(t, "joint a 0 1048577", 1, 11, api.ErrPlan)
	faulty(t, "joint a 0 0 fix", 1, 16, api.ErrPlan)
	faulty(t, "joint a 0 0 fix y x", 1, 19, api.ErrPlan)
	faulty(t, "joint a 0 0 fix x x", 1, 19, api.ErrPlan)
	faulty(t, "pole a", 1, 1, api.ErrPlan)
	faulty(t, "joint a 0 0\njoint a 1 0", 2, 7, api.ErrName)
	faulty(t, two+"bar m a q 1 1", 3, 9, api.ErrName)
	faulty(t, two+"bar m a Q 1 1", 3, 9, api.ErrPlan)
	faulty(t, two+"bar m a b 1 x", 3, 13, api.ErrQuantity)
	faulty(t, two+"bar m a b 1e999 1", 3, 11, api.ErrOver)
	faulty(t, two+"bar m a b 1 1 1", 3, 15, api.ErrPlan)
	faulty(t, two+"joint c 1 0", 3, 1, api.ErrJoint)
	faulty(t, two+"bar m a a 1 1", 3, 1, api.ErrMember)
	faulty(t, two+"bar m a b 0 1", 3, 1, api.ErrMember)
}

// P20.1: a text's length is looked at ahead of all else.
func TestLongTexts(t *testing.T) {
	for _, begin := range []string{"pole\n", "joint a 0", "joint a 0 00\n", two + two} {
		text := begin + strings.Repeat(" ", 65536-len(begin))
		want := api.ErrPlan
		if begin == two+two {
			want = api.ErrName
		}
		if _, spot := plan.Parse(text); spot.Err != want {
			t.Error(spot)
		}
		agrees(t, text)
		faulty(t, text+" ", 1, 1, api.ErrLong)
		faulty(t, text+"\n", 1, 1, api.ErrLong)
	}
	for _, filler := range []string{" ", "\n", "#"} {
		fill := strings.Repeat(filler, 65536-len(two)-1) + "\n"
		says(t, fill+two, between())
		says(t, two+fill, between())
		faulty(t, two+fill+"\n", 1, 1, api.ErrLong)
	}
	faulty(t, strings.Repeat("\n", 65535)+"x", 65536, 1, api.ErrPlan)
	faulty(t, strings.Repeat(" ", 65535)+"x", 1, 65536, api.ErrPlan)
	faulty(t, "joint"+strings.Repeat(" ", 65531), 1, 65537, api.ErrPlan)
	faulty(t, strings.Repeat("x", 65536), 1, 1, api.ErrPlan)
	faulty(t, strings.Repeat("x", 1<<20), 1, 1, api.ErrLong)
	says(t, strings.Repeat("# ", 32768), api.Plan{})
}

// P20.1, P20.4: lines that are passed over.
func TestPassedOver(t *testing.T) {
	for _, line := range []string{"", " ", "     ", "#", " #", "   # joint a 0 0", "#joint a 0 0", "##", "# \x00\t\r\x7f\x80\xff", "#\t", "#bar"} {
		says(t, line, api.Plan{})
		says(t, line+"\n", api.Plan{})
		says(t, line+"\n"+two, between())
		says(t, strings.ReplaceAll(two, "\n", "\n"+line+"\n"), between())
		says(t, two+line, between())
		faulty(t, line+"\n"+line+"\n  pole", 3, 3, api.ErrPlan)
	}
	faulty(t, "joint a 0 0 # held by none", 1, 13, api.ErrPlan)
	faulty(t, "joint a 0 0 fix x #", 1, 19, api.ErrPlan)
	faulty(t, "joint #a 0 0", 1, 7, api.ErrPlan)
	faulty(t, "joint a # 0", 1, 9, api.ErrPlan)
	faulty(t, two+"bar m a b 1 #", 3, 13, api.ErrQuantity)
	faulty(t, two+"bar m a b 1 1 #", 3, 15, api.ErrPlan)
	faulty(t, two+"beam m a b 1 1 1 # hinge a", 3, 18, api.ErrPlan)
	faulty(t, "joint# a 0 0", 1, 1, api.ErrPlan)
}

// P20.1, P20.4: blanks ahead of, between and behind words; a last byte 10 that lacks.
func TestBlanks(t *testing.T) {
	for n := 1; n < 5; n++ {
		wide := strings.Repeat(" ", n)
		lines := strings.Split(strings.TrimSuffix(example, "\n"), "\n")
		for i, line := range lines {
			lines[i] = wide + strings.ReplaceAll(line, " ", wide) + wide
		}
		says(t, strings.Join(lines, "\n"), examplePlan())
		says(t, strings.Join(lines, "\n")+"\n", examplePlan())
		says(t, strings.Join(lines, "\n\n")+"\n\n\n", examplePlan())
	}
	says(t, strings.TrimSuffix(example, "\n"), examplePlan())
	faulty(t, "   joint   a   0   00   ", 1, 20, api.ErrPlan)
	faulty(t, "  joint a 0 0\n  joint a 1 1", 2, 9, api.ErrName)
	faulty(t, "joint a\n0 0", 1, 8, api.ErrPlan)
	faulty(t, "jo int a 0 0", 1, 1, api.ErrPlan)
	faulty(t, "jointa 0 0", 1, 1, api.ErrPlan)
}

// P20.1: every byte but 32 and 10 is a word's.
func TestOtherBytes(t *testing.T) {
	for b := range 256 {
		for _, form := range []string{"_", "_joint a 0 0", "joint_ a 0 0", "joint_a 0 0", "joint a_ 0 0", "joint _ 0 0", "joint a 0_ 0", "joint a 0 _0", "joint a 0 0 _", "joint a 0 0_", "joint a 0 0 fix x_", "joint a 0 0 fix_x", two + "bar m a b 1_ 1", two + "bar m a b 1 1_", two + "bar m a_ b 1 1", two + "beam m a b 1 1 1 hinge_ a", "# _ x", "_# x"} {
			agrees(t, strings.ReplaceAll(form, "_", string([]byte{byte(b)})))
		}
	}
	for _, b := range []string{"\x00", "\t", "\r", "\x7f", "\x80", "\xff", "é", "\u00a0", "\v", "\f"} {
		faulty(t, b, 1, 1, api.ErrPlan)
		faulty(t, b+"# x", 1, 1, api.ErrPlan)
		faulty(t, "joint"+b+"a 0 0", 1, 1, api.ErrPlan)
		faulty(t, "joint a"+b+" 0 0", 1, 7, api.ErrPlan)
		faulty(t, "joint a 0 0"+b, 1, 11, api.ErrPlan)
		faulty(t, "joint a 0 0 "+b, 1, 13, api.ErrPlan)
		faulty(t, "joint a 0 0 fix x"+b+" y", 1, 17, api.ErrPlan)
		faulty(t, two+"bar m a"+b+" b 1 1", 3, 7, api.ErrPlan)
		faulty(t, two+"bar m a b 1"+b+" 1", 3, 11, api.ErrQuantity)
		says(t, "# "+b+"\n", api.Plan{})
	}
	faulty(t, "joint a 0 0\r\njoint b 1 0\r\n", 1, 11, api.ErrPlan)
	faulty(t, "joint é 0", 1, 7, api.ErrPlan)
	faulty(t, "joint a 0 0 fix x é ", 1, 19, api.ErrPlan)
	faulty(t, "é joint", 1, 1, api.ErrPlan)
	faulty(t, "joint a é", 1, 9, api.ErrPlan)
	faulty(t, "#é\njoint \n", 2, 7, api.ErrPlan)
}

func jointLines(n int) string {
	text := ""
	for i := range n {
		text += "joint " + name(i) + " " + strconv.Itoa(i%4) + " " + strconv.Itoa(i/4) + "\n"
	}
	return text
}

func memberLines(n int) string {
	text := ""
	for i := range n {
		text += []string{"bar ", "beam "}[i%2] + name(i) + " a b 1 1" + []string{"", " 1"}[i%2] + "\n"
	}
	return text
}

// P20.1: so many joints and members, and one more.
func TestTooMany(t *testing.T) {
	full := jointLines(16)
	if p, spot := plan.Parse(full); len(p.Joints) != 16 || spot != (api.Spot{}) {
		t.Error(p, spot)
	}
	agrees(t, full)
	for _, rest := range []string{"", " ", " q 9 9", " a0 0 0", " Q", " q 9 9 9", " q 00", " q 9 9 fix"} {
		faulty(t, full+"\n  joint"+rest, 18, 3, api.ErrLong)
	}
	faulty(t, full+"Joint q 9 9", 17, 1, api.ErrPlan)
	faulty(t, full+"joints q 9 9", 17, 1, api.ErrPlan)
	agrees(t, full+"#joint q 9 9\nbar m a0 b0z 1 1")
	faulty(t, full+"pole\njoint q 9 9", 17, 1, api.ErrPlan)

	// Two joints at one point are looked for behind all lines.
	twins := strings.Replace(full, " 1 0\n", " 0 0\n", 1)
	faulty(t, twins, 2, 1, api.ErrJoint)
	faulty(t, twins+"joint q 9 9", 17, 1, api.ErrLong)

	full = two + memberLines(48)
	if p, spot := plan.Parse(full); len(p.Members) != 48 || spot != (api.Spot{}) {
		t.Error(p, spot)
	}
	agrees(t, full)
	for _, word := range []string{"bar", "beam"} {
		for _, rest := range []string{"", "  ", " zz a b 1 1", " a0 a b 1 1", " zz q b", " zz a b 1 1 1", " Z"} {
			faulty(t, full+" "+word+rest, 51, 2, api.ErrLong)
		}
	}
	faulty(t, full+"barn", 51, 1, api.ErrPlan)
	says(t, full+"joint z 5 5", must(full+"joint z 5 5"))
	faulty(t, strings.Replace(full, "a b 1 1", "a a 1 1", 1)+"bar zz a b 1 1", 51, 1, api.ErrLong)
	agrees(t, jointLines(16)+strings.ReplaceAll(memberLines(48), " a b ", " a0 b0z "))
	faulty(t, jointLines(16)+strings.ReplaceAll(memberLines(48), " a b ", " a0 b0z ")+"joint", 65, 1, api.ErrLong)
	faulty(t, jointLines(16)+strings.ReplaceAll(memberLines(48), " a b ", " a0 b0z ")+"bar", 65, 1, api.ErrLong)
}

// must is the plan that text says by the chapter's words.
func must(text string) api.Plan {
	p, spot := byWords(text)
	if spot != (api.Spot{}) {
		panic(text)
	}
	return p
}

// P20.1: first words.
func TestFirstWords(t *testing.T) {
	for _, word := range []string{"join", "joints", "ajoint", "Joint", "JOINT", "jointjoint", "ba", "bars", "abar", "Bar", "BAR", "barbeam", "bea", "beams", "abeam", "Beam", "beam1", "fix", "hinge", "x", "y", "turn", "a", "b", "0", "1", "-", "joint#", "o", "oint", "eam", "ar", "load"} {
		faulty(t, word, 1, 1, api.ErrPlan)
		faulty(t, word+" a 0 0", 1, 1, api.ErrPlan)
		faulty(t, two+"   "+word+" m a b 1 1 1", 3, 4, api.ErrPlan)
	}
	faulty(t, "joint", 1, 6, api.ErrPlan)
	faulty(t, "bar", 1, 4, api.ErrPlan)
	faulty(t, "beam", 1, 5, api.ErrPlan)
}

// P20.1: names.
func TestNames(t *testing.T) {
	for _, n := range []string{"a", "z", "m", "a0", "a9", "abcdefgh", "a1234567", "z9z9z9z9", "joint", "bar", "beam", "fix", "x", "turn", "hinge"} {
		says(t, "joint "+n+" 3 4", oneJoint(n, 3, 4, 0))
		says(t, two+"bar "+n+" a b 1 1", between(api.Member{Name: n, Kind: api.Bar, B: 1, E: 1, Area: 1}))
		text := "joint " + n + " 3 4\njoint q8 5 5\n"
		p := api.Plan{Joints: []api.Joint{{Name: n, X: 3, Y: 4}, {Name: "q8", X: 5, Y: 5}}}
		p.Members = []api.Member{{Name: "m", Kind: api.Beam, A: 1, B: 0, E: 1, Area: 1, I: 1, HingeB: true}}
		says(t, text+"beam m q8 "+n+" 1 1 1 hinge b", p)
		faulty(t, text+"joint "+n+" 7 7", 3, 7, api.ErrName)
	}
	for _, n := range []string{"abcdefghi", "a12345678", "A", "aB", "abC", "Z9", "1", "1a", "0", "9z", "-a", "a-", "_", "a_", "a.b", "+", "-1", "é", "aé", "a#", "{", "`", "a/", "a:", "@", "a\x00", "\xff", strings.Repeat("a", 300)} {
		faulty(t, "joint "+n+" 0 0", 1, 7, api.ErrPlan)
		faulty(t, "joint "+n, 1, 7, api.ErrPlan)
		faulty(t, two+"bar "+n+" a b 1 1", 3, 5, api.ErrPlan)
		faulty(t, two+"beam "+n+" q q", 3, 6, api.ErrPlan)
		faulty(t, two+"bar m "+n+" b 1 1", 3, 7, api.ErrPlan)
		faulty(t, two+"beam m a "+n+" 1 1 1", 3, 10, api.ErrPlan)
	}
}

// P20.1: names that are there already, and names that are not there.
func TestNamesAhead(t *testing.T) {
	says(t, two+"bar a a b 1 1\nbar b b a 1 1", between(api.Member{Name: "a", Kind: api.Bar, B: 1, E: 1, Area: 1}, api.Member{Name: "b", Kind: api.Bar, A: 1, E: 1, Area: 1}))
	says(t, two+"bar c a b 1 1\njoint c 5 5", must(two+"bar c a b 1 1\njoint c 5 5"))
	faulty(t, two+"joint b 5 5", 3, 7, api.ErrName)
	faulty(t, two+"joint b", 3, 7, api.ErrName)
	faulty(t, two+"joint b 1 0", 3, 7, api.ErrName)
	faulty(t, two+"bar m a b 1 1\nbeam m a b 1 1 1", 4, 6, api.ErrName)
	faulty(t, two+"beam m a b 1 1 1\nbar m Q", 4, 5, api.ErrName)
	faulty(t, two+"bar m a b 1 1\nbar n a b 1 1\nbar m a b 1 1", 5, 5, api.ErrName)

	faulty(t, "bar m a b 1 1\n"+two, 1, 7, api.ErrName)
	faulty(t, "joint a 0 0\nbar m a b 1 1\njoint b 1 0", 2, 9, api.ErrName)
	faulty(t, two+"bar m a b 1 1\nbar n m b 1 1", 4, 7, api.ErrName) // a member's name is no joint's
	faulty(t, two+"bar m a m 1 1", 3, 9, api.ErrName)
	faulty(t, two+"bar m abcdefgh b 1 1", 3, 7, api.ErrName)
	faulty(t, two+"bar m q Q 1 1", 3, 7, api.ErrName)
	faulty(t, two+"bar m Q q 1 1", 3, 7, api.ErrPlan)
	faulty(t, two+"bar m a", 3, 8, api.ErrPlan)
	faulty(t, two+"bar m", 3, 6, api.ErrPlan)
}

// P20.1: X and Y.
func TestCoordinates(t *testing.T) {
	for word, n := range map[string]int32{"0": 0, "1": 1, "-1": -1, "9": 9, "10": 10, "-10": -10, "100": 100, "1048576": 1 << 20, "-1048576": -1 << 20, "1048575": 1<<20 - 1, "-1048575": 1 - 1<<20, "999999": 999999} {
		says(t, "joint a "+word+" 7", oneJoint("a", n, 7, 0))
		says(t, "joint a 7 "+word, oneJoint("a", 7, n, 0))
		says(t, "joint a "+word+" "+word+" fix turn", oneJoint("a", n, n, 4))
	}
	for _, word := range []string{"-0", "00", "01", "-01", "-00", "000", "0001048576", "1048577", "-1048577", "1048580", "2097152", "10485760", "+0", "+1", "+1048576", "--1", "-", "+", "1-", "1.0", "1.", ".5", "1e3", "0x1", "1_0", "_1", "12345678901234567890", "-12345678901234567890", "00000000000000000001", "18446744073709551616", "18446744073709551617", "-18446744073709551615", "4294967296", "4294967297", "-4294967295", "9223372036854775807", "-9223372036854775808", "a", "x", "fix", "NaN", "Inf", "١", "1\x00", "\xff", strings.Repeat("1", 5000), strings.Repeat("0", 5000)} {
		faulty(t, "joint a "+word+" 0", 1, 9, api.ErrPlan)
		faulty(t, "joint a "+word, 1, 9, api.ErrPlan)
		faulty(t, "joint a 0 "+word, 1, 11, api.ErrPlan)
		faulty(t, "joint a 0 "+word+" fix x", 1, 11, api.ErrPlan)
	}
}

// each goes through all rows of at most so many of these words.
func each(words []string, most int, do func(row []string)) {
	var row []string
	var deeper func()
	deeper = func() {
		do(slices.Clone(row))
		if len(row) == most {
			return
		}
		for _, word := range words {
			row = append(row, word)
			deeper()
			row = row[:len(row)-1]
		}
	}
	deeper()
}

// P20.1: what is held, each way, and every row of words that is none.
func TestFix(t *testing.T) {
	fixes := map[string]uint8{"": 0, "fix x": 1, "fix y": 2, "fix x y": 3, "fix turn": 4, "fix x turn": 5, "fix y turn": 6, "fix x y turn": 7}
	many := 0
	each([]string{"fix", "x", "y", "turn", "X", "#"}, 5, func(row []string) {
		tail := strings.Join(row, " ")
		text := strings.TrimSuffix("joint a 2 3 "+tail, " ")
		agrees(t, text)
		p, spot := plan.Parse(text)
		fix, ok := fixes[tail]
		if ok != (spot == api.Spot{}) || ok && !equal(p, oneJoint("a", 2, 3, fix)) {
			t.Fatal(text, p, spot)
		}
		if ok {
			many++
		}
	})
	if many != 8 {
		t.Error(many)
	}
	faulty(t, "joint a 0 0 x", 1, 13, api.ErrPlan)
	faulty(t, "joint a 0 0 fix ", 1, 17, api.ErrPlan)
	faulty(t, "joint a 0 0 fix fix", 1, 17, api.ErrPlan)
	faulty(t, "joint a 0 0 fix x fix y", 1, 19, api.ErrPlan)
	faulty(t, "joint a 0 0 fix turn y", 1, 22, api.ErrPlan)
	faulty(t, "joint a 0 0 fix turn turn", 1, 22, api.ErrPlan)
	faulty(t, "joint a 0 0 fix turn x", 1, 22, api.ErrPlan)
	faulty(t, "joint a 0 0 fix y y", 1, 19, api.ErrPlan)
	faulty(t, "joint a 0 0 fix x y x", 1, 21, api.ErrPlan)
	faulty(t, "joint a 0 0 fix x y turn turn", 1, 26, api.ErrPlan)
	faulty(t, "joint a 0 0 fix xy", 1, 17, api.ErrPlan)
	faulty(t, "joint a 0 0 fix x,y", 1, 17, api.ErrPlan)
	faulty(t, "joint a 0 0 FIX x", 1, 13, api.ErrPlan)
	faulty(t, "joint a 0 0 fixed x", 1, 13, api.ErrPlan)
	faulty(t, "joint a 0 0 hinge a", 1, 13, api.ErrPlan)
	faulty(t, "joint a 0 0 0", 1, 13, api.ErrPlan)
}

// P20.1: hinges, each way, and every row of words that is none.
func TestHinges(t *testing.T) {
	hinges := map[string][2]bool{"": {}, "hinge a": {true, false}, "hinge b": {false, true}, "hinge a hinge b": {true, true}}
	many := 0
	each([]string{"hinge", "a", "b", "fix", "1"}, 5, func(row []string) {
		tail := strings.Join(row, " ")
		text := strings.TrimSuffix(two+"beam m a b 5 6 7 "+tail, " ")
		agrees(t, text)
		p, spot := plan.Parse(text)
		h, ok := hinges[tail]
		want := between(api.Member{Name: "m", Kind: api.Beam, B: 1, E: 5, Area: 6, I: 7, HingeA: h[0], HingeB: h[1]})
		if ok != (spot == api.Spot{}) || ok && !equal(p, want) {
			t.Fatal(text, p, spot)
		}
		if ok {
			many++
		}
		bar := strings.TrimSuffix(two+"bar m a b 5 6 "+tail, " ")
		agrees(t, bar)
		if _, spot := plan.Parse(bar); tail != "" && spot != (api.Spot{Line: 3, Col: 15, Err: api.ErrPlan}) {
			t.Fatal(bar, spot)
		}
	})
	if many != 4 {
		t.Error(many)
	}
	beam := two + "beam m a b 1 1 1"
	faulty(t, beam+" hinge", 3, 23, api.ErrPlan)
	faulty(t, beam+" hinge  ", 3, 25, api.ErrPlan)
	faulty(t, beam+" hinge hinge", 3, 24, api.ErrPlan)
	faulty(t, beam+" hinge c", 3, 24, api.ErrPlan)
	faulty(t, beam+" hinge A", 3, 24, api.ErrPlan)
	faulty(t, beam+" hinge a b", 3, 26, api.ErrPlan)
	faulty(t, beam+" hinge a hinge", 3, 31, api.ErrPlan)
	faulty(t, beam+" hinge a hinge a", 3, 32, api.ErrPlan)
	faulty(t, beam+" hinge b hinge a", 3, 26, api.ErrPlan)
	faulty(t, beam+" hinge b hinge b", 3, 26, api.ErrPlan)
	faulty(t, beam+" hinge a hinge b hinge a", 3, 34, api.ErrPlan)
	faulty(t, beam+" hinges a", 3, 18, api.ErrPlan)
	faulty(t, beam+" a", 3, 18, api.ErrPlan)
	faulty(t, beam+" 1", 3, 18, api.ErrPlan)
	// The ends are called a and b, whatever the joints' names are.
	says(t, two+"beam m b a 1 1 1 hinge a", between(api.Member{Name: "m", Kind: api.Beam, A: 1, E: 1, Area: 1, I: 1, HingeA: true}))
}

// P20.1: E, AREA, I.
func TestNumbers(t *testing.T) {
	for word, x := range map[string]float64{"1": 1, "001": 1, "1.": 1, ".5": 0.5, "0.1": 0.1, "2.1e5": 210000, "2.1E+5": 210000, "25e-1": 2.5, "1152921504606846976": 0x1p60, "1152921504606847000": 0x1p60, "8.673617379884035e-19": 0x1p-60, "0.30000000000000004": 0.30000000000000004, "9007199254740993": 9007199254740992, strings.Repeat("0", 63) + "7": 7} {
		says(t, two+"bar m a b "+word+" 3", between(api.Member{Name: "m", Kind: api.Bar, B: 1, E: x, Area: 3}))
		says(t, two+"bar m a b 3 "+word, between(api.Member{Name: "m", Kind: api.Bar, B: 1, E: 3, Area: x}))
		says(t, two+"beam m a b 3 4 "+word, between(api.Member{Name: "m", Kind: api.Beam, B: 1, E: 3, Area: 4, I: x}))
	}
	for word, e := range map[string]api.Errno{
		"x": api.ErrQuantity, "-": api.ErrQuantity, ".": api.ErrQuantity, "+1": api.ErrQuantity, "1e": api.ErrQuantity, "1e1234": api.ErrQuantity, "0x1": api.ErrQuantity, "1_0": api.ErrQuantity, "NaN": api.ErrQuantity, "Inf": api.ErrQuantity, "1..2": api.ErrQuantity, "hinge": api.ErrQuantity, "a": api.ErrQuantity, "1,5": api.ErrQuantity, "1\t": api.ErrQuantity,
		strings.Repeat("1", 65): api.ErrLong, strings.Repeat("x", 65): api.ErrLong, strings.Repeat("0", 5000): api.ErrLong,
		"1e309": api.ErrOver, "1e999": api.ErrOver, "-1e999": api.ErrOver, "179769313486231580793728971405303415079934132710037826936173e260": api.ErrOver,
	} {
		faulty(t, two+"bar m a b "+word+" 1", 3, 11, e)
		faulty(t, two+"bar m a b "+word, 3, 11, e)
		faulty(t, two+"bar m a b 1 "+word, 3, 13, e)
		faulty(t, two+"bar m a b 1 "+word+" 1", 3, 13, e)
		faulty(t, two+"beam m a b 1 1 "+word, 3, 16, e)
		faulty(t, two+"beam m a b 1 1 "+word+" hinge b", 3, 16, e)
		faulty(t, two+"beam m a b 1 "+word+" q", 3, 14, e)
	}
	// A float, but none that a member may have.
	for _, word := range []string{"0", "-0", "-1", "1e-400", "-1e-400", "1e-999", "1e308", "1152921504606848000", "8.673617379884034e-19", "2e18", "1e-20", "-210000"} {
		faulty(t, two+"bar m a b "+word+" 1", 3, 1, api.ErrMember)
		faulty(t, two+"  bar m a b 1 "+word, 3, 3, api.ErrMember)
		faulty(t, two+"\n beam m a b 1 1 "+word+" hinge b", 4, 2, api.ErrMember)
	}
}

// P20.1: of every line cut off behind a byte, and with blanks behind it.
func TestWordsThatLack(t *testing.T) {
	for _, line := range []string{"joint c 20 -30 fix x y turn", "bar mm a b 10 2.5e3", "beam mm a b 10 2.5e3 7 hinge a hinge b"} {
		for n := range len(line) + 1 {
			for _, behind := range []string{"", " ", "   ", "\n", "  \n", "\njoint"} {
				agrees(t, two+line[:n]+behind)
			}
		}
	}
	words := strings.Fields("beam mm a b 10 2.5e3 7")
	for n := 1; n < len(words); n++ {
		line := strings.Join(words[:n], " ")
		faulty(t, two+line, 3, len(line)+1, api.ErrPlan)
		faulty(t, two+"  "+line+"\n", 3, len(line)+3, api.ErrPlan)
		faulty(t, two+line+"    \n"+line, 3, len(line)+5, api.ErrPlan)
	}
	faulty(t, two+"bar m a b 1", 3, 12, api.ErrPlan)
	faulty(t, two+"bar m a b", 3, 10, api.ErrPlan)
	faulty(t, two+"beam m a b 1 1", 3, 15, api.ErrPlan)
	faulty(t, two+"beam m a b 1 1 hinge a", 3, 16, api.ErrQuantity)
	faulty(t, "joint a", 1, 8, api.ErrPlan)
	faulty(t, "joint  ", 1, 8, api.ErrPlan)
}

// P20.1: what may not be is told behind all lines, at its own first word.
func TestMayNotBe(t *testing.T) {
	faulty(t, two+"\n\n   joint c 1 0 fix x", 5, 4, api.ErrJoint)
	faulty(t, "joint a 0 0\njoint b 0 0\njoint c 0 0", 2, 1, api.ErrJoint)
	faulty(t, "joint a 0 0\njoint b 1 0\n joint c 1 0\n joint d 0 0", 3, 2, api.ErrJoint)
	faulty(t, two+"bar m a a 1 1\n  joint c 1 0", 4, 3, api.ErrJoint)
	faulty(t, two+"bar m a b 1 1\n # n\n  beam n b b 1 1 1", 5, 3, api.ErrMember)
	faulty(t, two+"bar m a b 1 1\n  bar n a b 1 1e19\nbar o a a 1 1", 4, 3, api.ErrMember)
	faulty(t, two+"beam m a b 1 1 0\nbar n a a 0 0", 3, 1, api.ErrMember)
	faulty(t, "joint a 0 0\nbar m a a 1 1\njoint b 1 1\nbar n a b 1 1", 2, 1, api.ErrMember)
}

// P20.1: of several faults the first one is told, and those of lines ahead of what may not be.
func TestFirstFault(t *testing.T) {
	faulty(t, "joint A 00 00 fix\npole", 1, 7, api.ErrPlan)
	faulty(t, "joint a 00 00 fix\npole", 1, 9, api.ErrPlan)
	faulty(t, "joint a 0 00 fix\npole", 1, 11, api.ErrPlan)
	faulty(t, "joint a 0 0 fix\npole", 1, 16, api.ErrPlan)
	faulty(t, "joint a 0 0\npole\njoint a", 2, 1, api.ErrPlan)
	faulty(t, two+"joint c 1 0\npole", 4, 1, api.ErrPlan)
	faulty(t, two+"joint c 1 0\nbar m a a 0 1e999", 4, 13, api.ErrOver)
	faulty(t, two+"bar m a a 1 1\nbar m a b 1 1", 4, 5, api.ErrName)
	faulty(t, two+"bar m q b x y z", 3, 7, api.ErrName)
	faulty(t, two+"bar m a q x y z", 3, 9, api.ErrName)
	faulty(t, two+"bar m a b x y z", 3, 11, api.ErrQuantity)
	faulty(t, two+"bar m a b 1 1e999 z", 3, 13, api.ErrOver)
	faulty(t, two+"bar m a b 1 1 z", 3, 15, api.ErrPlan)
}

// amiss is p with a joint at another's point, a member that ends where it begins, or a number that may not be.
func amiss(r *rand.Rand, p api.Plan) api.Plan {
	if len(p.Joints) > 1 && r.Intn(2) == 0 {
		i, j := r.Intn(len(p.Joints)), r.Intn(len(p.Joints))
		p.Joints[i].X, p.Joints[i].Y = p.Joints[j].X, p.Joints[j].Y
	}
	if len(p.Members) > 0 && r.Intn(2) == 0 {
		m := &p.Members[r.Intn(len(p.Members))]
		switch r.Intn(3) {
		case 0:
			m.B = m.A
		case 1:
			m.E = []float64{0, -1, 0x1p61, 1e-30, minusNought}[r.Intn(5)]
		case 2:
			m.Area = math.MaxFloat64
		}
	}
	return p
}

// spoilt is text with something changed.
func spoilt(r *rand.Rand, text string) string {
	lines := strings.SplitAfter(text, "\n")
	k := r.Intn(len(lines))
	words := strings.Split(lines[k], " ")
	i := r.Intn(len(words))
	other := []string{"joint", "bar", "beam", "fix", "x", "y", "turn", "hinge", "a", "b", "a0", "b0z", "0", "-1", "1e999", "1e-30", "#", "", "A", "00", "1048577", strings.Repeat("1", 65)}
	switch r.Intn(10) {
	case 0:
		words[i] = other[r.Intn(len(other))]
	case 1:
		words = slices.Delete(words, i, i+1)
	case 2:
		words = slices.Insert(words, i, other[r.Intn(len(other))])
	case 3:
		j := r.Intn(len(words))
		words[i], words[j] = words[j], words[i]
	case 4:
		words[i] = " " + words[i]
	case 5:
		j := r.Intn(len(lines))
		lines[k], lines[j] = lines[j], lines[k]
		return strings.Join(lines, "")
	case 6:
		return strings.Join(slices.Insert(lines, k, lines[r.Intn(len(lines))]), "")
	case 7:
		b := []byte(text)
		if len(b) > 0 {
			b[r.Intn(len(b))] = "\x00\t\r\n #-+.eEaz09A\x7f\x80\xff"[r.Intn(19)]
		}
		return string(b)
	case 8:
		return text[:r.Intn(len(text)+1)]
	case 9:
		if len(words) > 5 && words[0] != "joint" {
			words[4] = []string{"1e999", "-1e400", "1e400", "e", strings.Repeat("9", 66)}[r.Intn(5)]
		}
	}
	lines[k] = strings.Join(words, " ")
	return strings.Join(lines, "")
}

// P20.1: any texts, most of them nearly a plan's.
func TestSpoiltTexts(t *testing.T) {
	r := rand.New(rand.NewSource(20))
	met := map[api.Errno]int{}
	for i := range 20000 {
		most := [2]int{5, 6}
		if i%20 == 0 {
			most = [2]int{40, 90}
		}
		p := anyPlan(r, most[0], most[1])
		if i%5 == 1 {
			p = amiss(r, p)
		}
		text := told(p, plainly)
		for range r.Intn(4) {
			text = spoilt(r, text)
		}
		agrees(t, text)
		_, spot := plan.Parse(text)
		met[spot.Err]++
	}
	for _, e := range []api.Errno{api.OK, api.ErrPlan, api.ErrName, api.ErrQuantity, api.ErrOver, api.ErrLong, api.ErrJoint, api.ErrMember} {
		if met[e] < 100 {
			t.Error(e, "was met too seldom:", met)
		}
	}
}

// P20.1: words of the language in any order.
func TestAnyWords(t *testing.T) {
	r := rand.New(rand.NewSource(21))
	words := []string{"joint", "bar", "beam", "a", "b", "c", "0", "1", "-7", "fix", "x", "y", "turn", "hinge", "1.5", "\n", "\n", "\n", "#", " ", "1e999", "A"}
	for range 50000 {
		text := []string{"", two, "joint a 0 0\n"}[r.Intn(3)]
		for range r.Intn(20) {
			text += words[r.Intn(len(words))] + " "
		}
		agrees(t, text)
	}
}

// P20.4: what is refused at a line is refused there whatever stands in the lines behind.
func TestLinesBehind(t *testing.T) {
	r := rand.New(rand.NewSource(22))
	many := 0
	for range 3000 {
		text := spoilt(r, told(anyPlan(r, 5, 6), plainly))
		_, spot := plan.Parse(text)
		if spot.Err == api.OK || spot.Err == api.ErrJoint || spot.Err == api.ErrMember {
			continue
		}
		many++
		lines := strings.SplitAfter(text, "\n")
		begin := strings.TrimSuffix(strings.Join(lines[:spot.Line], ""), "\n")
		for _, behind := range []string{"", "\n", "\npole", "\n" + two, "\n#" + strings.Repeat("\n", 1000), "\n" + told(anyPlan(r, 8, 8), plainly)} {
			if _, again := plan.Parse(begin + behind); again != spot {
				t.Fatalf("%q: %v, not %v", begin+behind, again, spot)
			}
		}
		long := begin + "\n" + strings.Repeat(" ", 65536)
		faulty(t, long, 1, 1, api.ErrLong)
	}
	if many < 500 {
		t.Error(many)
	}
}

// P20.4: what is spare changes nothing but lines and columns.
func TestSpareBlanksAndLines(t *testing.T) {
	r := rand.New(rand.NewSource(23))
	spare := []string{"", "\n", " \n", "   # x\n", "#\n\n", "#joint a 0 0\n"}
	for i := range 3000 {
		text := told(anyPlan(r, 6, 8), plainly)
		if i%2 == 0 {
			text = spoilt(r, text)
		}
		want, spot := plan.Parse(text)
		loose, from := "", 0 // from: the line, in loose, of the fault
		for k, line := range strings.SplitAfter(text, "\n") {
			loose += spare[r.Intn(len(spare))]
			if k+1 == spot.Line {
				from = strings.Count(loose, "\n") + 1
			}
			blanks := strings.Repeat(" ", r.Intn(3))
			body, ends := strings.CutSuffix(line, "\n")
			loose += blanks + strings.ReplaceAll(body, " ", " "+strings.Repeat(" ", r.Intn(3))) + blanks
			if ends {
				loose += "\n"
			}
		}
		got, at := plan.Parse(loose)
		if at.Err != spot.Err || at.Line != from || !equal(got, want) {
			t.Fatalf("%q: %v, not as %q: %v", loose, at, text, spot)
		}
		agrees(t, loose)
		short, at := plan.Parse(strings.TrimSuffix(text, "\n"))
		if at != spot || !equal(short, want) {
			t.Fatalf("%q without its end: %v, not %v", text, at, spot)
		}
	}
}

// R1: no text makes Parse panic.
func FuzzParse(f *testing.F) {
	for _, text := range []string{"", example, two, "#", "joint a 0 0 fix", "bar"} {
		f.Add(text)
	}
	f.Fuzz(func(t *testing.T, text string) { agrees(t, text) })
}

// P20.1: numbers are read to Nearest, each into its own field.
func TestNumbersKeepTheirFields(t *testing.T) {
	p, spot := plan.Parse(two + "beam m a b 0.1 0.2 0.3\nbar n b a 0.7 123456789012345678\n")
	want := between(api.Member{Name: "m", Kind: api.Beam, B: 1, E: 0.1, Area: 0.2, I: 0.3}, api.Member{Name: "n", Kind: api.Bar, A: 1, E: 0.7, Area: 123456789012345678})
	if spot != (api.Spot{}) || !equal(p, want) {
		t.Error(p, spot)
	}
	if i := p.Members[1].I; i != 0 || math.Signbit(i) {
		t.Error(i)
	}
}
