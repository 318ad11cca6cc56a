package plan_test

import (
	"math"
	"math/rand"
	"runtime"
	"slices"
	"strings"
	"testing"

	"girder/api"
	"girder/plan"
)

// room is the whole memory of l, what is spare too.
func room[T any](l []T) []T { return l[:cap(l)] }

// roomy is p in memory of its own, with room behind its lists that holds what would be refused.
func roomy(p api.Plan) api.Plan {
	joints := append(slices.Clone(p.Joints), api.Joint{Name: "A", Fix: 99}, api.Joint{Name: "A", Fix: 99})
	members := append(slices.Clone(p.Members), api.Member{Name: "spare", E: math.NaN()}, api.Member{Name: "spare"})
	return api.Plan{Joints: joints[:len(p.Joints)], Members: members[:len(p.Members)]}
}

// R3: what is handed in is left as it was, its room too, and what stands there plays no part.
func TestArgumentsAreLeft(t *testing.T) {
	r := rand.New(rand.NewSource(31))
	for i := range 500 {
		p := anyPlan(r, 6, 8)
		if i%4 == 0 {
			p = amiss(r, p)
		}
		q := roomy(p)
		was := api.Plan{Joints: slices.Clone(room(q.Joints)), Members: slices.Clone(room(q.Members))}
		text, e := plan.Print(q)
		if want, f := plan.Print(p); text != want || e != f {
			t.Fatalf("%q, %d, not %q, %d", text, e, want, f)
		}
		if !plan.Same(p, q) || !plan.Same(q, p) {
			t.Fatal(p, q)
		}
		if at, ok := plan.Member(q, "spare"); at != 0 || ok {
			t.Fatal(at, ok)
		}
		if !equal(was, api.Plan{Joints: room(q.Joints), Members: room(q.Members)}) {
			t.Fatal("changed:", q)
		}
	}
}

// R3: plans that share their lists, or pieces of them.
func TestArgumentsThatShare(t *testing.T) {
	all := must(jointLines(16) + strings.ReplaceAll(memberLines(48), " a b ", " a0 b0z "))
	was := copied(all)
	for from := range 40 {
		part := api.Plan{Joints: all.Joints[:8], Members: all.Members[from : from+8]}
		apart := copied(part)
		text, e := plan.Print(part)
		if want, f := plan.Print(apart); text != want || e != f || e != api.OK {
			t.Fatal(text, e, want, f)
		}
		if !plan.Same(part, apart) || plan.Same(part, all) {
			t.Fatal(part)
		}
		if next := (api.Plan{Joints: all.Joints[:8], Members: all.Members[from+1 : from+9 : from+9]}); from < 39 && plan.Same(part, next) {
			t.Fatal(part, next)
		}
		if at, ok := plan.Member(part, all.Members[from+5].Name); at != 5 || !ok {
			t.Fatal(at, ok)
		}
	}
	if !equal(all, was) {
		t.Error("changed:", all)
	}
}

// fill writes x all over the memory of l, its room too.
func fill[T any](l []T, x T) {
	for i := range room(l) {
		room(l)[i] = x
	}
}

// R3, R4: whoever writes into an answer changes no other one, and no later one.
func TestAnswersAreNew(t *testing.T) {
	r := rand.New(rand.NewSource(32))
	for range 300 {
		text := told(anyPlan(r, 16, 20), plainly)
		first, _ := plan.Parse(text)
		second, _ := plan.Parse(text)
		want := must(text)
		fill(first.Joints, api.Joint{Name: "Z", X: 99})
		if !slices.Equal(second.Joints, want.Joints) || !equal(api.Plan{Members: first.Members}, api.Plan{Members: want.Members}) {
			t.Fatal("joints share memory")
		}
		fill(first.Members, api.Member{Name: "Z", A: 99})
		if !equal(second, want) {
			t.Fatal("members share memory")
		}
		if third, _ := plan.Parse(text); !equal(third, want) {
			t.Fatal("what was answered is kept")
		}
		plan.Parse("joint q 5 5\npole")
		plan.Parse(text + text)
		if !equal(second, want) {
			t.Fatal("a later call writes into an answer")
		}
	}
}

// R3: a plan that is kept does not keep the text that it was read from.
func TestTextIsNotKept(t *testing.T) {
	const many = 500
	held := func() uint64 {
		var m runtime.MemStats
		runtime.GC()
		runtime.ReadMemStats(&m)
		return m.HeapAlloc
	}
	before := held()
	plans := make([]api.Plan, many)
	for i := range plans {
		plans[i], _ = plan.Parse(example + strings.Repeat(" ", api.MaxText-len(example)))
	}
	if more := int64(held()) - int64(before); more > many*api.MaxText/4 {
		t.Error(more, "bytes are held by", many, "small plans")
	}
	if !equal(plans[0], plans[many-1]) {
		t.Error(plans[0], plans[many-1])
	}
}

// R4: a refused text, or any other one, leaves nothing behind.
func TestNothingIsLeftBehind(t *testing.T) {
	for _, ahead := range []string{"", two, "pole", two + "bar m a b 1 1\npole", jointLines(17), strings.Repeat(" ", 70000), example} {
		plan.Parse(ahead)
		says(t, example, examplePlan())
		faulty(t, "bar m a b 1 1", 1, 7, api.ErrName)
		says(t, "", api.Plan{})
	}
}
