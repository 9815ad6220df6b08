package snaps_test

import (
	"math/rand"
	"reflect"
	"slices"
	"strings"
	"testing"

	"godown/api"
	"godown/snaps"
)

// P17.3, and P1 to P3 of DOC.md

// spoil: so many leaves are changed to one of these numbers or texts, and lists
// are doubled, cut or turned round.
func spoil(r *rand.Rand, x *api.Tenant, times int, numbers []int, texts []string) {
	for range times {
		switch leaf := pick(r, leavesOf(x)); leaf.Kind() {
		case reflect.String:
			leaf.SetString(pick(r, texts))
		case reflect.Int:
			leaf.SetInt(int64(pick(r, numbers)))
		case reflect.Bool:
			leaf.SetBool(!leaf.Bool())
		}
		l := pick(r, listsOf(x))
		if l.Len() == 0 {
			continue
		}
		at := r.Intn(l.Len())
		switch r.Intn(8) {
		case 0:
			l.Set(reflect.Append(l, l.Index(at)))
		case 1:
			l.Set(l.Slice(0, at))
		case 2:
			l.Set(l.Slice(at, l.Len()))
		case 3:
			reflect.Swapper(l.Interface())(0, at)
		}
	}
}

// given: texts that are handed in beside a tenant, each with memory of its own.
type given struct {
	Path, Root, Name, Last, New, To, Kid string
}

func someGiven() given {
	return deep(given{
		Path: "alpha", Name: "monday", Last: "friday", New: "name-of-it", To: "middle", Kid: "alpha/one/two/three",
	}, 0)
}

// answers: what each call answers of the tenant without an error, of full.
func answers(t *testing.T, x api.Tenant, g given) []api.Tenant {
	t.Helper()
	var out []api.Tenant
	add := func(x api.Tenant, err api.Errno) {
		t.Helper()
		if err != api.OK {
			t.Fatalf("answer %d: error %d", len(out), err)
		}
		out = append(out, x)
	}
	for _, path := range []string{g.Path, g.Root, "beta", "plain"} {
		y, _, err := snaps.Snapshot(x, path, g.New)
		add(y, err)
	}
	add(snaps.Destroy(x, g.Path, g.Name))
	add(snaps.Destroy(x, "alpha/one/two", "tuesday"))
	add(snaps.Rollback(x, g.Path, g.Last))
	add(snaps.Rollback(x, g.Root, g.Name))
	add(snaps.Rollback(x, "beta", "new"))
	add(snaps.Clone(x, g.Path, g.Last, g.To))
	add(snaps.Clone(x, g.Path, g.Name, g.Kid))
	add(snaps.Clone(x, g.Root, g.Name, g.To))
	add(snaps.Rename(x, g.Path, g.Last, g.New))
	add(snaps.Rename(x, g.Path, g.Name, g.New))
	add(snaps.Rename(x, g.Root, g.Name, g.New))
	return out
}

func TestArgumentsStay(t *testing.T) {
	for _, room := range []int{0, 1, 3} {
		x := deep(full(), room)
		ahead := whole(&x)
		answers(t, x, someGiven())
		if whole(&x) != ahead {
			t.Errorf("room of %d: what was handed in was changed", room)
		}
	}
	for what, x := range tenants() {
		x := deep(x, 2)
		ahead := whole(&x)
		for _, a := range asks() {
			a.call(x)
		}
		if whole(&x) != ahead {
			t.Errorf("%s: what was handed in was changed", what)
		}
	}
}

// TestWhatStandsBehindDoesNotCount: nor does what a list could still hold.
func TestWhatStandsBehindDoesNotCount(t *testing.T) {
	for what, x := range tenants() {
		for _, a := range asks() {
			want := a.call(x)
			for _, room := range []int{1, 4} {
				if got := a.call(deep(x, room)); !one(got, want) {
					t.Errorf("%s, %s: %d with room behind, %d without", what, a.what, got.Err, want.Err)
				}
			}
		}
	}
	want := answers(t, full(), someGiven())
	if got := answers(t, deep(full(), 5), someGiven()); !one(got, want) {
		t.Error("answers with room behind are others")
	}
}

func TestAnswersShareNoMemory(t *testing.T) {
	for _, room := range []int{0, 3} {
		x, g := deep(full(), room), someGiven()
		mustShareNothing(t, "full", slices.Concat(roomsOf(x), roomsOf(g)), slices.Concat(answers(t, x, g), answers(t, x, g))...)
	}
	r := rand.New(rand.NewSource(179))
	for range 40 {
		x := deep(someTenant(r), r.Intn(2))
		for range 3 {
			a := someAsk(r, x)
			mustShareNothing(t, a.what, roomsOf(x), a.call(x).Tenant, a.call(x).Tenant)
		}
	}
}

// TestOneMemoryManyTimes: of what is handed in all texts and lists may be one;
// in what is answered each has memory of its own.
func TestOneMemoryManyTimes(t *testing.T) {
	s := strings.Clone("abcdefghijklmnop")
	body := []api.Block{{Index: 1, Data: s}, {Index: 2, Data: s}}
	own := []api.Prop{{Name: s, Value: s}}
	snaps := []api.Snap{{Name: s[:3], Guid: 1, Body: body, Own: own}, {Name: s[:7], Guid: 2, Body: body, Own: own}, {Name: s, Guid: 3, Body: body, Own: own}}
	x := api.Tenant{Name: s, Quota: 999, Next: 1, Sets: []api.Set{{Body: body, Snaps: snaps, Own: own}}}
	for i := 2; i < 9; i++ {
		x.Sets = append(x.Sets, api.Set{Path: s[:i], Origin: "@abc", Body: body, Snaps: snaps, Own: own})
	}
	x.Grants = []api.Grant{{User: s, Path: s, Perms: 1}}
	x.Stages = []api.Stage{{Into: s, Begin: api.Record{Kind: 1, Name: s, Guid: 1, Own: own}, Body: body}}
	x.Log = []api.Entry{{User: s, Path: s}, {User: s, Path: s}}
	var got []api.Tenant
	for _, a := range []ask{
		snapshot("", s[:4]), snapshot(s[:5], s[:5]), destroy(s[:4], s), destroy("", s[:7]), rollback("", s), rollback(s[:6], s),
		clone("", s, s), clone(s[:4], s[:3], s), rename("", s[:3], s[:4]), rename(s[:5], s, s[:6]),
	} {
		y := mustAnswer(t, "one text many times", x, a)
		if y.Err != api.OK {
			t.Fatalf("%s: %d", a.what, y.Err)
		}
		got = append(got, y.Tenant)
	}
	mustShareNothing(t, "one text many times", slices.Concat(roomsOf(x), roomsOf(s)), got...)
}

// TestAnswersAreNotKept: an answer that is changed, or arguments that are,
// change no other answer.
func TestAnswersAreNotKept(t *testing.T) {
	wreck := func(x *api.Tenant) {
		for _, leaf := range leavesOf(x) {
			leaf.SetZero()
		}
		for _, l := range listsOf(x) {
			l.Slice(0, l.Cap()).Clear()
		}
	}
	x, g := deep(full(), 2), someGiven()
	want := told(answers(t, x, g))
	got := answers(t, x, g)
	other := answers(t, x, g)
	for i := range other {
		wreck(&other[i])
	}
	if told(answers(t, x, g)) != want {
		t.Error("an answer changes with another one")
	}
	wreck(&x)
	if told(got) != want {
		t.Error("an answer changes with what was handed in")
	}
	for i := range got {
		wreck(&got[i])
		if told(got[i+1:]) != told(answers(t, full(), g)[i+1:]) {
			t.Error("answers change with each other")
		}
	}
	if told(answers(t, full(), g)) != want {
		t.Error("an answer changes with one that was")
	}
}

// TestSetsAndSnapshotsPart: what is the same in an answer stands there twice, so
// that one can be changed without the other.
func TestSetsAndSnapshotsPart(t *testing.T) {
	g := someGiven()
	for i, x := range answers(t, full(), g) {
		for j := range listsOf(&x) {
			y := deep(x, 0)
			before := told(y)
			l := listsOf(&x)[j]
			if l.Len() == 0 {
				continue
			}
			kept := reflect.New(l.Index(0).Type()).Elem()
			kept.Set(l.Index(0))
			l.Index(0).SetZero()
			listsOf(&y)[j].Index(0).SetZero()
			if told(x) != told(y) {
				t.Errorf("answer %d: with list %d another one is changed", i, j)
			}
			if l.Index(0).Set(kept); told(x) != before {
				t.Fatalf("answer %d: list %d is not as it was", i, j)
			}
		}
	}
}

// TestOneAfterAnother: what is answered is handed in again, and stays, whatever
// comes of it.
func TestOneAfterAnother(t *testing.T) {
	r := rand.New(rand.NewSource(180))
	for range 6 {
		line := []api.Tenant{deep(someTenant(r), 1)}
		var were []string
		for range 20 {
			x := line[len(line)-1]
			were = append(were, whole(&x))
			if got := someAsk(r, x).call(x); got.Err == api.OK {
				line = append(line, got.Tenant)
				continue
			}
			line = append(line, deep(x, 1))
		}
		for i, was := range were {
			if whole(&line[i]) != was {
				t.Fatal("a tenant was changed by a later call")
			}
		}
		mustShareNothing(t, "a history", nil, line...)
	}
}

func TestNilAndEmptyAreOne(t *testing.T) {
	for what, x := range tenants() {
		empty, bare := deep(x, 0), deep(x, 0)
		for _, l := range listsOf(&empty) {
			if l.Len() == 0 {
				l.Set(reflect.MakeSlice(l.Type(), 0, 3))
			}
		}
		for _, l := range listsOf(&bare) {
			if l.Len() == 0 {
				l.SetZero()
			}
		}
		for _, a := range asks() {
			if !one(a.call(empty), a.call(bare)) {
				t.Errorf("%s, %s: empty lists are not as nil ones", what, a.what)
			}
		}
	}
}

// TestTheSameEachTime: whatever was asked ahead, and of whom.
func TestTheSameEachTime(t *testing.T) {
	want := told(answers(t, full(), someGiven()))
	for what, x := range tenants() {
		for _, a := range asks() {
			a.call(x)
		}
		if told(answers(t, full(), someGiven())) != want {
			t.Fatalf("answers are others behind %s", what)
		}
	}
}

// TestTheSameInManyGoroutines: one tenant of which all are asked.
func TestTheSameInManyGoroutines(t *testing.T) {
	x, g := deep(full(), 2), someGiven()
	want := told(answers(t, x, g))
	got := make(chan string)
	for range 16 {
		go func() { got <- told(answers(t, x, g)) }()
	}
	for range 16 {
		if <-got != want {
			t.Error("an answer is another one in a goroutine")
		}
	}
}

// TestHuge: tenants and texts far above all limits are answered soon.
func TestHuge(t *testing.T) {
	const n = 1 << 17
	long, deepest := strings.Repeat("b", 1<<24), strings.Repeat("b/", 1<<20)+"b"
	for what, do := range map[string]func(x *api.Tenant){
		"sets":        func(x *api.Tenant) { x.Sets = make([]api.Set, n) },
		"blocks":      func(x *api.Tenant) { x.Sets[1].Body = span(0, 1<<16) },
		"snapshots":   func(x *api.Tenant) { x.Sets[1].Snaps = make([]api.Snap, n) },
		"its blocks":  func(x *api.Tenant) { x.Sets[1].Snaps[2].Body = span(0, 1<<16) },
		"tags":        func(x *api.Tenant) { x.Sets[1].Snaps[2].Tags = make([]string, n) },
		"properties":  func(x *api.Tenant) { x.Sets[1].Snaps[2].Own = make([]api.Prop, n) },
		"stages":      func(x *api.Tenant) { x.Stages = make([]api.Stage, n) },
		"grants":      func(x *api.Tenant) { x.Grants = make([]api.Grant, n) },
		"entries":     func(x *api.Tenant) { x.Log = make([]api.Entry, n) },
		"a long Name": func(x *api.Tenant) { x.Name = long },
		"a long Path": func(x *api.Tenant) { x.Sets[9].Path = deepest },
		"an Origin":   func(x *api.Tenant) { x.Sets[9].Origin = deepest + "@friday" },
		"clones":      func(x *api.Tenant) { x.Sets = slices.Repeat([]api.Set{{Path: "alpha", Origin: "alpha@friday"}}, n) },
	} {
		x := onto(full(), do)
		for _, a := range []ask{snapshot("alpha", "new"), snapshot(long, long), destroy("alpha", "friday"), rollback("alpha", "friday"), clone("alpha", "friday", "new"), clone("alpha", "friday", deepest), rename("alpha", "friday", "new")} {
			if got := a.call(x); !one(got, reply{Err: api.ErrState}) {
				t.Errorf("%s, %s: %d", what, a.what, got.Err)
			}
		}
	}
	for _, s := range []string{long, deepest} {
		for _, a := range []ask{
			snapshot(s, "a"), snapshot("alpha", s), destroy(s, "friday"), destroy("alpha", s), rollback(s, "friday"), rollback("alpha", s),
			clone(s, "friday", "new"), clone("alpha", s, "new"), clone("alpha", "friday", s), rename(s, "friday", "new"), rename("alpha", s, "new"), rename("alpha", "friday", s),
		} {
			if got := a.call(full()); !one(got, reply{Err: api.ErrName}) {
				t.Errorf("a huge text: %d", got.Err)
			}
		}
	}
}
