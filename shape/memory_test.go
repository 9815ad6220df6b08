package shape_test

import (
	"math/rand"
	"reflect"
	"slices"
	"strings"
	"testing"

	"godown/api"
	"godown/shape"
	"godown/tree"
)

// P16.4, and P1 to P3 of DOC.md

// spoil: so many leaves are changed to one of these numbers or texts, and lists
// are doubled, cut or turned round.
func spoil(r *rand.Rand, x *api.Tenant, times int, numbers []int, texts []string) {
	for range times {
		switch leaf := pick(r, leavesOf(x)); leaf.Kind() {
		case reflect.String:
			leaf.SetString(pick(r, texts))
		case reflect.Int:
			leaf.SetInt(int64(pick(r, numbers)))
		case reflect.Bool:
			leaf.SetBool(!leaf.Bool())
		}
		l := pick(r, listsOf(x))
		if l.Len() == 0 {
			continue
		}
		at := r.Intn(l.Len())
		switch r.Intn(8) {
		case 0:
			l.Set(reflect.Append(l, l.Index(at)))
		case 1:
			l.Set(l.Slice(0, at))
		case 2:
			l.Set(l.Slice(at, l.Len()))
		case 3:
			reflect.Swapper(l.Interface())(0, at)
		}
	}
}

// given: texts that are handed in beside a tenant, each with memory of its own.
type given struct {
	Kid, Path, Data, Name, Value string
	Set                          api.Set
}

func someGiven(room int) given {
	return deep(given{
		Kid: "alpha/one/two/three", Path: "alpha", Data: text(77), Name: "name-of-it", Value: "what it says",
		Set: api.Set{Path: "middle", Origin: "alpha@monday", Body: content(1, 2), Own: own("atime=never"), Snaps: []api.Snap{{Name: "monday", Guid: 12, Body: content(3), Tags: []string{"keep", "keep-2"}, Own: own("copies=four")}}},
	}, room)
}

// answers: what each call answers of the tenant without an error, of full.
func answers(t *testing.T, x api.Tenant, g given) []api.Tenant {
	t.Helper()
	var out []api.Tenant
	add := func(x api.Tenant, err api.Errno) {
		t.Helper()
		if err != api.OK {
			t.Fatalf("answer %d: error %d", len(out), err)
		}
		out = append(out, x)
	}
	add(shape.Create(x, g.Kid))
	add(shape.Destroy(x, "alpha/one/two"))
	add(shape.Write(x, g.Path, 3, g.Data))
	add(shape.Write(x, g.Path, 500, g.Data))
	add(shape.Free(x, g.Path, 2, 5))
	add(shape.Free(x, "plain", 2, 5))
	add(shape.Set(x, g.Path, g.Name, g.Value))
	add(shape.Set(x, g.Path, "atime", g.Value))
	add(shape.Unset(x, g.Path, "atime"))
	add(shape.Settle(x))
	add(shape.With(x, g.Set), api.OK)
	add(shape.With(api.Tenant{}, g.Set), api.OK)
	return out
}

func TestArgumentsStay(t *testing.T) {
	for _, room := range []int{0, 1, 3} {
		x, g := deep(full(), room), someGiven(room)
		ahead, set := whole(&x), whole(&g.Set)
		answers(t, x, g)
		if whole(&x) != ahead || whole(&g.Set) != set {
			t.Errorf("room of %d: what was handed in was changed", room)
		}
	}
	for what, x := range tenants() {
		x, s := deep(x, 2), deep(full().Sets[1], 2)
		ahead, set := whole(&x), whole(&s)
		for _, a := range asks() {
			a.call(x)
		}
		shape.With(x, s)
		if whole(&x) != ahead || whole(&s) != set {
			t.Errorf("%s: what was handed in was changed", what)
		}
	}
}

// TestWhatStandsBehindDoesNotCount: nor does what a list could still hold.
func TestWhatStandsBehindDoesNotCount(t *testing.T) {
	for what, x := range tenants() {
		for _, a := range asks() {
			want, wantErr := a.call(x)
			for _, room := range []int{1, 4} {
				if got, err := a.call(deep(x, room)); err != wantErr || !one(got, want) {
					t.Errorf("%s, %s: %d with room behind, %d without", what, a.what, err, wantErr)
				}
			}
		}
	}
	want := answers(t, full(), someGiven(0))
	if got := answers(t, deep(full(), 5), someGiven(5)); !one(got, want) {
		t.Error("answers with room behind are others")
	}
}

func TestAnswersShareNoMemory(t *testing.T) {
	for _, room := range []int{0, 3} {
		x, g := deep(full(), room), someGiven(room)
		mustShareNothing(t, "full", slices.Concat(roomsOf(x), roomsOf(g)), slices.Concat(answers(t, x, g), answers(t, x, g))...)
	}
	r := rand.New(rand.NewSource(167))
	for range 60 {
		x := deep(someTenant(r), r.Intn(2))
		for _, a := range []ask{someAsk(r, x), someAsk(r, x), settle()} {
			first, _ := a.call(x)
			second, _ := a.call(x)
			mustShareNothing(t, a.what, roomsOf(x), first, second)
		}
	}
}

// TestOneMemoryManyTimes: of what is handed in all texts and lists may be one;
// in what is answered each has memory of its own.
func TestOneMemoryManyTimes(t *testing.T) {
	s := strings.Clone("abcdefghijklmnop")
	body := []api.Block{{Index: 1, Data: s}, {Index: 2, Data: s}}
	own := []api.Prop{{Name: s, Value: s}}
	snaps := []api.Snap{{Name: s[:3], Guid: 1, Body: body, Own: own}, {Name: s, Guid: 2, Body: body, Own: own}}
	x := api.Tenant{Name: s, Quota: 999, Next: 1, Sets: []api.Set{{Body: body, Snaps: snaps, Own: own}}}
	for i := 2; i < 9; i++ {
		x.Sets = append(x.Sets, api.Set{Path: s[:i], Origin: "@abc", Body: body, Snaps: snaps, Own: own})
	}
	x.Grants = []api.Grant{{User: s, Path: s, Perms: 1}}
	x.Stages = []api.Stage{{Into: s, Begin: api.Record{Kind: 1, Name: s, Guid: 1, Own: own}, Body: body}}
	x.Log = []api.Entry{{User: s, Path: s}, {User: s, Path: s}}
	var got []api.Tenant
	for _, a := range []ask{create(s), destroy(s[:4]), write(s[:5], 1, s), write(s[:5], 7, s), free(s[:5], 1, 1), set(s[:5], s, s), set(s[:5], s[:4], s[:5]), unset(s[:5], s), settle()} {
		y, err := mustAnswer(t, "one text many times", x, a)
		if err != api.OK {
			t.Fatalf("%s: %d", a.what, err)
		}
		got = append(got, y)
	}
	got = append(got, shape.With(x, x.Sets[3]), shape.With(x, api.Set{Path: s, Origin: s, Body: body, Snaps: snaps, Own: own}))
	mustShareNothing(t, "one text many times", slices.Concat(roomsOf(x), roomsOf(s)), got...)
}

// TestAnswersAreNotKept: an answer that is changed, or arguments that are,
// change no other answer.
func TestAnswersAreNotKept(t *testing.T) {
	wreck := func(x *api.Tenant) {
		for _, leaf := range leavesOf(x) {
			leaf.SetZero()
		}
		for _, l := range listsOf(x) {
			l.Slice(0, l.Cap()).Clear()
		}
	}
	x, g := deep(full(), 2), someGiven(0)
	want := told(answers(t, x, g))
	got := answers(t, x, g)
	other := answers(t, x, g)
	for i := range other {
		wreck(&other[i])
	}
	if told(answers(t, x, g)) != want {
		t.Error("an answer changes with another one")
	}
	wreck(&x)
	if told(got) != want {
		t.Error("an answer changes with what was handed in")
	}
	wreck(&got[0])
	if told(got[1:]) != told(answers(t, full(), g)[1:]) {
		t.Error("answers change with each other")
	}
	if told(answers(t, full(), g)) != want {
		t.Error("an answer changes with one that was")
	}
}

// TestOneAfterAnother: what is answered is handed in again, and stays, whatever
// comes of it.
func TestOneAfterAnother(t *testing.T) {
	r := rand.New(rand.NewSource(168))
	for range 30 {
		line := []api.Tenant{deep(someTenant(r), 1)}
		var were []string
		for range 20 {
			x := line[len(line)-1]
			were = append(were, whole(&x))
			y, err := someAsk(r, x).call(x)
			if err != api.OK {
				y = shape.With(x, api.Set{})
				y.Sets = y.Sets[1:]
			}
			line = append(line, y)
		}
		for i, was := range were {
			if whole(&line[i]) != was {
				t.Fatal("a tenant was changed by a later call")
			}
		}
		mustShareNothing(t, "a history", nil, line...)
	}
}

func TestNilAndEmptyAreOne(t *testing.T) {
	for what, x := range tenants() {
		empty, bare := deep(x, 0), deep(x, 0)
		for _, l := range listsOf(&empty) {
			if l.Len() == 0 {
				l.Set(reflect.MakeSlice(l.Type(), 0, 3))
			}
		}
		for _, l := range listsOf(&bare) {
			if l.Len() == 0 {
				l.SetZero()
			}
		}
		for _, a := range asks() {
			first, err := a.call(empty)
			second, other := a.call(bare)
			if err != other || !one(first, second) {
				t.Errorf("%s, %s: empty lists are not as nil ones", what, a.what)
			}
		}
		s := api.Set{Path: "m", Body: []api.Block{}, Snaps: []api.Snap{}, Own: []api.Prop{}}
		if !one(shape.With(empty, s), shape.With(bare, api.Set{Path: "m"})) {
			t.Errorf("%s, With: empty lists are not as nil ones", what)
		}
	}
}

// TestTheSameEachTime: whatever was asked ahead, and of whom.
func TestTheSameEachTime(t *testing.T) {
	want := told(answers(t, full(), someGiven(0)))
	for what, x := range tenants() {
		for _, a := range asks() {
			a.call(x)
		}
		shape.With(x, full().Sets[1])
		if told(answers(t, full(), someGiven(0))) != want {
			t.Fatalf("answers are others behind %s", what)
		}
	}
}

// TestTheSameInManyGoroutines: one tenant of which all are asked.
func TestTheSameInManyGoroutines(t *testing.T) {
	x, g := deep(full(), 2), someGiven(2)
	want := told(answers(t, x, g))
	got := make(chan string)
	for range 16 {
		go func() { got <- told(answers(t, x, g)) }()
	}
	for range 16 {
		if <-got != want {
			t.Error("an answer is another one in a goroutine")
		}
	}
}

// TestHuge: tenants and texts far above all limits are answered soon.
func TestHuge(t *testing.T) {
	const n = 1 << 17
	long, deepest := strings.Repeat("b", 1<<24), strings.Repeat("b/", 1<<20)+"b"
	for what, do := range map[string]func(x *api.Tenant){
		"sets":        func(x *api.Tenant) { x.Sets = make([]api.Set, n) },
		"blocks":      func(x *api.Tenant) { x.Sets[8].Body = span(0, 1<<16) },
		"snapshots":   func(x *api.Tenant) { x.Sets[8].Snaps = make([]api.Snap, n) },
		"properties":  func(x *api.Tenant) { x.Sets[8].Own = make([]api.Prop, n) },
		"stages":      func(x *api.Tenant) { x.Stages = make([]api.Stage, n) },
		"grants":      func(x *api.Tenant) { x.Grants = make([]api.Grant, n) },
		"entries":     func(x *api.Tenant) { x.Log = make([]api.Entry, n) },
		"a long Name": func(x *api.Tenant) { x.Name = long },
		"a long Path": func(x *api.Tenant) { x.Sets[9].Path = deepest },
	} {
		x := onto(full(), do)
		for _, a := range []ask{create("new"), create(long), destroy("plain"), write("plain", 1, text(1)), free("plain", 1, 1), set("plain", "a", "1"), unset("plain", "a"), settle()} {
			if got, err := a.call(x); err != api.ErrState || got.Sets != nil {
				t.Errorf("%s, %s: %d", what, a.what, err)
			}
		}
	}
	for _, path := range []string{long, deepest} {
		for _, a := range []ask{create(path), destroy(path), write(path, 1, text(1)), free(path, 1, 1), set(path, "a", "1"), unset(path, "a")} {
			if _, err := a.call(full()); err != api.ErrName {
				t.Errorf("a huge path: %d", err)
			}
		}
	}
	for want, a := range map[api.Errno]ask{api.ErrLong: write("plain", 1, long), api.ErrName: set("plain", long, "1"), api.ErrState: set("plain", "a", long), api.ErrNone: unset("plain", long)} {
		if _, err := a.call(full()); err != want {
			t.Errorf("a huge text: %d, want %d", err, want)
		}
	}
	x := api.Tenant{Sets: make([]api.Set, n)}
	if got := shape.With(x, api.Set{Path: long}); len(got.Sets) != n+1 || got.Sets[n].Path != long || tree.Find(got, long) != n {
		t.Error("With of a huge tenant")
	}
}
