package holds_test

import (
	"math/rand"
	"reflect"
	"slices"
	"strings"
	"testing"

	"godown/api"
	"godown/holds"
)

// P18.3, and P1 to P3 of DOC.md

// spoil: so many leaves are changed to one of these numbers or texts, and lists
// are doubled, cut or turned round.
func spoil(r *rand.Rand, x *api.Tenant, times int, numbers []int, texts []string) {
	for range times {
		switch leaf := pick(r, leavesOf(x)); leaf.Kind() {
		case reflect.String:
			leaf.SetString(pick(r, texts))
		case reflect.Int:
			leaf.SetInt(int64(pick(r, numbers)))
		case reflect.Bool:
			leaf.SetBool(!leaf.Bool())
		}
		l := pick(r, listsOf(x))
		if l.Len() == 0 {
			continue
		}
		at := r.Intn(l.Len())
		switch r.Intn(8) {
		case 0:
			l.Set(reflect.Append(l, l.Index(at)))
		case 1:
			l.Set(l.Slice(0, at))
		case 2:
			l.Set(l.Slice(at, l.Len()))
		case 3:
			reflect.Swapper(l.Interface())(0, at)
		}
	}
}

// given: texts that are handed in beside a tenant, each with memory of its own.
type given struct {
	Path, Root, Name, Early, New, Tag, Keep string
}

func someGiven() given {
	return deep(given{Path: "alpha", Name: "monday", Early: "early", New: "cc-and-more", Tag: "dd", Keep: "keep"}, 0)
}

// answers: what each call answers of the tenant without an error, of full.
func answers(t *testing.T, x api.Tenant, g given) []reply {
	t.Helper()
	var out []reply
	for _, a := range []ask{
		hold(g.Path, g.Name, g.New), hold(g.Path, g.Name, g.Keep), hold(g.Path, "noon", g.New), hold(g.Root, g.Name, g.Keep), hold(g.Root, g.Early, g.Tag), hold("alpha/one/two", "mike", g.Early),
		release(g.Path, g.Name, g.Tag), release(g.Path, "friday", g.Tag), release(g.Path, "friday", "hh"), release(g.Root, g.Early, g.Keep), release("staged", "seen", longestName),
		all(), held(g.Path, g.Name), held(g.Root, g.Name),
	} {
		got := a.call(x)
		if got.Err != api.OK {
			t.Fatalf("%s: error %d", a.what, got.Err)
		}
		out = append(out, got)
	}
	return out
}

func TestArgumentsStay(t *testing.T) {
	for _, room := range []int{0, 1, 3, 9} {
		x := deep(full(), room)
		ahead := whole(&x)
		answers(t, x, someGiven())
		if whole(&x) != ahead {
			t.Errorf("room of %d: what was handed in was changed", room)
		}
	}
	for what, x := range tenants() {
		x := deep(x, 2)
		ahead := whole(&x)
		for _, a := range append(asks(), looks()...) {
			a.call(x)
		}
		if whole(&x) != ahead {
			t.Errorf("%s: what was handed in was changed", what)
		}
	}
}

// TestWhatStandsBehindDoesNotCount: nor does what a list could still hold.
func TestWhatStandsBehindDoesNotCount(t *testing.T) {
	for what, x := range tenants() {
		for _, a := range append(asks(), looks()...) {
			want := a.call(x)
			for _, room := range []int{1, 4} {
				if got := a.call(deep(x, room)); !one(got, want) {
					t.Errorf("%s, %s: %s with room behind, %s without", what, a.what, brief(got), brief(want))
				}
			}
		}
	}
	want := answers(t, full(), someGiven())
	if got := answers(t, deep(full(), 5), someGiven()); !one(got, want) {
		t.Error("answers with room behind are others")
	}
}

func TestAnswersShareNoMemory(t *testing.T) {
	for _, room := range []int{0, 3} {
		x, g := deep(full(), room), someGiven()
		mustShareNothing(t, "full", slices.Concat(roomsOf(x), roomsOf(g)), slices.Concat(answers(t, x, g), answers(t, x, g))...)
	}
	r := rand.New(rand.NewSource(187))
	for range 40 {
		x := deep(someTenant(r), r.Intn(2))
		for range 3 {
			a := someAsk(r, x)
			mustShareNothing(t, a.what, roomsOf(x), a.call(x), a.call(x), all().call(x), all().call(x))
		}
	}
}

// TestOneMemoryManyTimes: of what is handed in all texts and lists may be one;
// in what is answered each has memory of its own.
func TestOneMemoryManyTimes(t *testing.T) {
	s := strings.Clone("abcdefghijklmnop")
	body := []api.Block{{Index: 1, Data: s}, {Index: 2, Data: s}}
	own := []api.Prop{{Name: s, Value: s}}
	two := []string{s[:2], s[:5]}
	snaps := []api.Snap{{Name: s[:3], Guid: 1, Body: body, Tags: two, Own: own}, {Name: s[:7], Guid: 2, Body: body, Tags: two, Own: own}, {Name: s, Guid: 3, Body: body, Own: own}}
	x := api.Tenant{Name: s, Quota: 999, Next: 1, Sets: []api.Set{{Body: body, Snaps: snaps, Own: own}}}
	for i := 2; i < 9; i++ {
		x.Sets = append(x.Sets, api.Set{Path: s[:i], Origin: "@abc", Body: body, Snaps: snaps, Own: own})
	}
	x.Grants = []api.Grant{{User: s, Path: s, Perms: 1}}
	x.Stages = []api.Stage{{Into: s, Begin: api.Record{Kind: 1, Name: s, Guid: 1, Own: own}, Body: body}}
	x.Log = []api.Entry{{User: s, Path: s}, {User: s, Path: s}}
	var got []reply
	for _, a := range []ask{
		hold("", s[:3], s[:3]), hold("", s[:7], s), hold(s[:4], s, s[:4]), hold(s[:8], s[:3], s[:8]),
		release("", s[:3], s[:2]), release(s[:5], s[:7], s[:5]), all(),
	} {
		y := mustAnswer(t, "one text many times", x, a)
		if y.Err != api.OK {
			t.Fatalf("%s: %d", a.what, y.Err)
		}
		got = append(got, y)
	}
	mustShareNothing(t, "one text many times", slices.Concat(roomsOf(x), roomsOf(s)), got...)
}

// TestOneListOfTags: of what is handed in one list may be the tags of many, with
// room behind it; just the one that is asked for changes.
func TestOneListOfTags(t *testing.T) {
	for room := range 5 {
		l := deep(struct{ Tags []string }{tags("bb dd ff")}, room).Tags
		x := row()
		for i := range x.Sets {
			for j := range x.Sets[i].Snaps {
				x.Sets[i].Snaps[j].Tags = l
			}
		}
		for _, tag := range tags("aa cc ee gg") {
			want := deep(x, 0)
			want.Sets[1].Snaps[1].Tags = append(want.Sets[1].Snaps[1].Tags, tag)
			slices.Sort(want.Sets[1].Snaps[1].Tags)
			mustBe(t, "one list", x, hold("a", "n2", tag), want)
		}
		for i, tag := range l {
			want := deep(x, 0)
			want.Sets[1].Snaps[1].Tags = slices.Delete(want.Sets[1].Snaps[1].Tags, i, i+1)
			mustBe(t, "one list", x, release("a", "n2", tag), want)
		}
		mustBe(t, "one list", x, hold("aa", "n3", "x"), onto(deep(x, 0), func(x *api.Tenant) { x.Sets[3].Snaps[2].Tags = tags("bb dd ff x") }))
	}
}

// TestAnswersAreNotKept: an answer that is changed, or arguments that are,
// change no other answer.
func TestAnswersAreNotKept(t *testing.T) {
	wreck := func(x any) {
		for _, leaf := range leavesOf(x) {
			leaf.SetZero()
		}
		for _, l := range listsOf(x) {
			l.Slice(0, l.Cap()).Clear()
		}
	}
	x, g := deep(full(), 2), someGiven()
	want := told(answers(t, x, g))
	got := answers(t, x, g)
	other := answers(t, x, g)
	for i := range other {
		wreck(&other[i])
	}
	if told(answers(t, x, g)) != want {
		t.Error("an answer changes with another one")
	}
	wreck(&x)
	if told(got) != want {
		t.Error("an answer changes with what was handed in")
	}
	for i := range got {
		wreck(&got[i])
		if told(got[i+1:]) != told(answers(t, full(), g)[i+1:]) {
			t.Error("answers change with each other")
		}
	}
	if told(answers(t, full(), g)) != want {
		t.Error("an answer changes with one that was")
	}
}

// TestOneAfterAnother: what is answered is handed in again, and stays, whatever
// comes of it.
func TestOneAfterAnother(t *testing.T) {
	r := rand.New(rand.NewSource(188))
	for range 6 {
		line := []reply{{Tenant: deep(someTenant(r), 1)}}
		var were []string
		for range 30 {
			x := line[len(line)-1].Tenant
			were = append(were, whole(&x))
			got := someAsk(r, x).call(x)
			if got.Err != api.OK || len(got.Tenant.Sets) == 0 {
				got = reply{Tenant: deep(x, 1)}
			}
			line = append(line, got)
		}
		for i, was := range were {
			if whole(&line[i].Tenant) != was {
				t.Fatal("a tenant was changed by a later call")
			}
		}
		mustShareNothing(t, "a history", nil, line...)
	}
}

func TestNilAndEmptyAreOne(t *testing.T) {
	for what, x := range tenants() {
		empty, bare := deep(x, 0), deep(x, 0)
		for _, l := range listsOf(&empty) {
			if l.Len() == 0 {
				l.Set(reflect.MakeSlice(l.Type(), 0, 3))
			}
		}
		for _, l := range listsOf(&bare) {
			if l.Len() == 0 {
				l.SetZero()
			}
		}
		for _, a := range append(asks(), looks()...) {
			if !one(a.call(empty), a.call(bare)) {
				t.Errorf("%s, %s: empty lists are not as nil ones", what, a.what)
			}
		}
	}
}

// TestTheSameEachTime: whatever was asked ahead, and of whom.
func TestTheSameEachTime(t *testing.T) {
	want := told(answers(t, full(), someGiven()))
	for what, x := range tenants() {
		for _, a := range append(asks(), looks()...) {
			a.call(x)
		}
		if told(answers(t, full(), someGiven())) != want {
			t.Fatalf("answers are others behind %s", what)
		}
	}
}

// TestTheSameInManyGoroutines: one tenant of which all are asked.
func TestTheSameInManyGoroutines(t *testing.T) {
	x, g := deep(full(), 2), someGiven()
	want := told(answers(t, x, g))
	got := make(chan string)
	for range 16 {
		go func() { got <- told(answers(t, x, g)) }()
	}
	for range 16 {
		if <-got != want {
			t.Error("an answer is another one in a goroutine")
		}
	}
}

// TestHuge: tenants and texts far above all limits are answered soon.
func TestHuge(t *testing.T) {
	const n = 1 << 16
	long, deepest := strings.Repeat("b", 1<<22), strings.Repeat("b/", 1<<20)+"b"
	for what, do := range map[string]func(x *api.Tenant){
		"sets":        func(x *api.Tenant) { x.Sets = make([]api.Set, n) },
		"blocks":      func(x *api.Tenant) { x.Sets[1].Body = make([]api.Block, n) },
		"snapshots":   func(x *api.Tenant) { x.Sets[1].Snaps = append(x.Sets[1].Snaps, make([]api.Snap, n)...) },
		"tags":        func(x *api.Tenant) { x.Sets[1].Snaps[2].Tags = make([]string, n) },
		"one tag":     func(x *api.Tenant) { x.Sets[1].Snaps[2].Tags = []string{long} },
		"a Name":      func(x *api.Tenant) { x.Sets[1].Snaps[0].Name = long },
		"properties":  func(x *api.Tenant) { x.Sets[1].Snaps[2].Own = make([]api.Prop, n) },
		"stages":      func(x *api.Tenant) { x.Stages = make([]api.Stage, n) },
		"grants":      func(x *api.Tenant) { x.Grants = make([]api.Grant, n) },
		"entries":     func(x *api.Tenant) { x.Log = make([]api.Entry, n) },
		"a long Path": func(x *api.Tenant) { x.Sets[9].Path = deepest },
		"an Origin":   func(x *api.Tenant) { x.Sets[9].Origin = deepest + "@friday" },
	} {
		x := onto(full(), do)
		for _, a := range []ask{hold("alpha", "friday", "new"), hold(long, long, long), release("alpha", "friday", "bb"), release(deepest, long, long)} {
			if got := a.call(x); !one(got, reply{Err: api.ErrState}) {
				t.Errorf("%s, %s: %d", what, a.what, got.Err)
			}
		}
		for _, a := range looks() {
			if got := a.call(x); !one(got, a.want(x)) {
				t.Errorf("%s, %s: %s", what, a.what, brief(got))
			}
		}
	}
	for _, s := range []string{long, deepest} {
		for _, a := range []ask{
			hold(s, "friday", "new"), hold("alpha", s, "new"), hold("alpha", "monday", s),
			release(s, "friday", "bb"), release("alpha", s, "bb"), release("alpha", "monday", s),
		} {
			if got := a.call(full()); !one(got, reply{Err: api.ErrName}) {
				t.Errorf("a huge text: %d", got.Err)
			}
		}
		if holds.Held(full(), s, "friday") || holds.Held(full(), "alpha", s) {
			t.Error("a huge text is held")
		}
	}
	many := slices.Repeat([]api.Set{{Path: "a", Snaps: []api.Snap{{Name: "n", Tags: tags("a")}}}}, n)
	if got := holds.All(api.Tenant{Sets: many}); len(got) != n || got[n-1] != "a@n" {
		t.Errorf("All of many: %d", len(got))
	}
}
