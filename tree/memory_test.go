package tree_test

import (
	"fmt"
	"math"
	"math/rand"
	"reflect"
	"slices"
	"strings"
	"testing"

	"godown/api"
	"godown/tree"
)

// P14.3, and P1 to P3 of DOC.md

// few: tenants of each kind, those with much in them left out.
func few() map[string]api.Tenant {
	out := map[string]api.Tenant{"zero": {}, "alone": alone(), "full": full(), "flat": flat(32), "filled": filled(2), "long": long()}
	for i, what := range []string{"16 snapshots", "4 tags", "4 stages", "16 entries", "clones of each other", "8 of each of two, not one"} {
		x := full()
		x.Quota = i
		out[what] = onto(x, goodEdits()[what])
	}
	for _, what := range []string{"no parent", "a set twice", "the root last", "a Name twice", "an Origin of no set", "a Begin with 16", "17 entries", "5 tags", "the root's own: 9 properties", "the last body: data of 17 octets"} {
		if badEdits()[what] == nil {
			panic("no edit is called " + what)
		}
		out[what] = onto(full(), badEdits()[what])
	}
	return out
}

// long: a tenant all of whose texts have memory.
func long() api.Tenant {
	x := full()
	for i := range x.Sets[1].Snaps {
		x.Sets[1].Snaps[i].Tags = tagsOf(4)
	}
	x.Sets[0].Own, x.Sets[1].Own = own("atime=relative", "copies=three"), own("atime=never", "quota=none at all")
	x.Stages[0].Begin.Own = own("copies=four")
	x.Log[1] = api.Entry{User: "alice", Path: "alpha/one"}
	return x
}

// askAll: each call, with what it may be asked for.
func askAll(x api.Tenant, path, name string) {
	tree.Check(x)
	tree.New(x.Name, x.Quota)
	tree.Find(x, path)
	for _, s := range x.Sets {
		tree.Snap(s, name)
	}
	tree.Kids(x, path)
	tree.Clones(x, path, name)
	tree.Clones(x, path, "")
	tree.Props(x, path)
	tree.Same(x, x)
	tree.Copy(x)
}

// TestArgumentsStay: what is handed in, and what stands behind it.
func TestArgumentsStay(t *testing.T) {
	for what, x := range few() {
		x = deep(x, 3)
		ahead := whole(&x)
		other := deep(x, 2)
		paths, snaps := asks(x)
		for i, path := range paths {
			askAll(x, path, snaps[i%len(snaps)])
		}
		tree.Same(x, other)
		tree.Same(other, x)
		if whole(&x) != ahead {
			t.Errorf("%s: what was handed in was changed", what)
		}
	}
}

// TestAnswersAreNotKept: an answer that is changed, or arguments that are,
// change no other answer.
func TestAnswersAreNotKept(t *testing.T) {
	x, again := long(), long()
	kids, clones := tree.Kids(x, ""), tree.Clones(x, "alpha", "")
	had, _ := tree.Props(x, "alpha/one/two/three")
	root, _ := tree.New(x.Name, 20)
	copied := tree.Copy(x)
	for _, leaf := range leaves(&x) {
		leaf.SetZero()
	}
	for _, l := range slicesOf(&x) {
		l.Clear()
	}
	if !one(copied, again) || !one(tree.Copy(again), again) {
		t.Error("Copy's answer changes with what was handed in")
	}
	if !slices.Equal(kids, []string{"alpha", "beta"}) || !slices.Equal(clones, []string{"alpha/one", "beta"}) {
		t.Error("Kids' or Clones' answer changes with what was handed in")
	}
	if !slices.Equal(had, own("atime=relative", "copies=three", "quota=none", "z=1")) {
		t.Errorf("Props' answer changes with what was handed in: %v", had)
	}
	clear(kids)
	clear(clones)
	clear(had)
	root.Sets[0].Path = "changed"
	if x, _ := tree.New("tenant-1", 20); !one(x, api.Tenant{Name: "tenant-1", Quota: 20, Next: 1, Sets: []api.Set{{}}}) {
		t.Error("New answers what was changed")
	}
	if !slices.Equal(tree.Kids(again, ""), []string{"alpha", "beta"}) {
		t.Error("Kids answers what was changed")
	}
}

func TestAnswersShareNoMemory(t *testing.T) {
	for what, x := range few() {
		for _, room := range []int{0, 3} {
			x := deep(x, room)
			given := rooms(x)
			paths, snaps := asks(x)
			for i, path := range paths {
				path, name := strings.Clone(path), strings.Clone(snaps[i%len(snaps)])
				given := slices.Concat(given, rooms(path), rooms(name))
				had, _ := tree.Props(x, path)
				again, _ := tree.Props(x, path)
				mustShareNothing(t, what, given, rooms(had), rooms(again),
					rooms(tree.Kids(x, path)), rooms(tree.Kids(x, path)),
					rooms(tree.Clones(x, path, name)), rooms(tree.Clones(x, path, name)),
					rooms(tree.Clones(x, path, "")), rooms(tree.Clones(x, path, "")))
			}
			mustShareNothing(t, what, given, rooms(tree.Copy(x)), rooms(tree.Copy(x)))
		}
	}
	for _, name := range []string{"tenant-1", longestName} {
		name := strings.Clone(name)
		a, _ := tree.New(name, 20)
		b, _ := tree.New(name, 20)
		mustShareNothing(t, "New", rooms(name), rooms(a), rooms(b))
	}
}

// TestOneMemoryManyTimes: of what is handed in, all texts and lists may be one;
// in what is answered each has memory of its own.
func TestOneMemoryManyTimes(t *testing.T) {
	s := strings.Clone("abcdefghijklmnop")
	body := []api.Block{{Index: 1, Data: s}, {Index: 2, Data: s}}
	props := []api.Prop{{Name: s, Value: s}}
	snaps := []api.Snap{{Name: s[:3], Guid: 1, Body: body, Tags: []string{s}, Own: props}, {Name: s, Guid: 2, Body: body, Own: props}}
	x := api.Tenant{Name: s, Next: 1, Sets: []api.Set{{Body: body, Snaps: snaps, Own: props, Origin: "ab@abc"}}}
	for i := 2; i < 9; i++ {
		x.Sets = append(x.Sets, api.Set{Path: s[:i], Origin: "@" + s, Body: body, Snaps: snaps, Own: props})
	}
	x.Grants = []api.Grant{{User: s, Path: s, Perms: 1}}
	x.Stages = []api.Stage{{Into: s[:2], Begin: api.Record{Kind: 1, Name: s, Guid: 1, Own: props}, Body: body}, {Into: s, Begin: api.Record{Kind: 1, Name: s, Guid: 1, Own: props}, Body: body}}
	x.Log = []api.Entry{{User: s, Path: s}, {User: s, Path: s}}
	mustCheck(t, "one text many times", x, api.OK)
	mustCopy(t, "one text many times", x)
	given := append(rooms(x), rooms(s)...)
	had, _ := tree.Props(x, s[:4])
	mustShareNothing(t, "one text many times", given, rooms(had), rooms(tree.Kids(x, "")), rooms(tree.Clones(x, "", s)), rooms(tree.Clones(x, "", "")))
	if len(had) != 1 || len(tree.Kids(x, "")) != 7 || len(tree.Clones(x, "", s)) != 7 {
		t.Error("Props, Kids or Clones of one text many times")
	}

	// And sets that are one set.
	x.Sets = slices.Repeat(x.Sets[2:3], 5)
	mustCopy(t, "one set many times", x)
	given = append(rooms(x), rooms(s)...)
	mustShareNothing(t, "one set many times", given, rooms(tree.Kids(x, "")), rooms(tree.Clones(x, "", s)))
}

func TestNilAndEmptyAreOne(t *testing.T) {
	for what, x := range few() {
		empty := deep(x, 0)
		for _, l := range slicesOf(&empty) {
			if l.Len() == 0 {
				l.Set(reflect.MakeSlice(l.Type(), 0, 3))
			}
		}
		if tree.Check(x) != tree.Check(empty) || !tree.Same(x, empty) || !one(tree.Copy(x), tree.Copy(empty)) {
			t.Errorf("%s: empty lists are not as nil ones", what)
		}
		paths, snaps := asks(x)
		for i, path := range paths {
			mustLook(t, what, empty, path, snaps[i%len(snaps)])
			mustProps(t, what, empty, path)
		}
	}
}

// spoiled: a tenant made by chance, with so many leaves and lists changed to
// anything.
func spoiled(r *rand.Rand, times int) api.Tenant {
	x := some(r)
	for range times {
		breakOne(r, &x)
		leaf := pick(r, leaves(&x))
		switch leaf.Kind() {
		case reflect.String:
			b := make([]byte, r.Intn(40))
			r.Read(b)
			leaf.SetString(string(b))
		case reflect.Int:
			leaf.SetInt(int64(r.Uint64()))
		}
	}
	return x
}

// TestNothingPanics: whatever is handed in, each call answers as the words
// tell it.
func TestNothingPanics(t *testing.T) {
	r := rand.New(rand.NewSource(147))
	last := api.Tenant{}
	for i := range 700 {
		x := spoiled(r, i%20)
		if got, want := tree.Check(x), wantCheck(x); got != want {
			t.Fatalf("Check of %v: %v, want %v", x, got, want)
		}
		if tree.Same(x, last) != one(x, last) || !one(tree.Copy(x), x) {
			t.Fatalf("Same or Copy of %v", x)
		}
		paths, snaps := asks(x)
		for range 10 {
			path, name := pick(r, paths), pick(r, snaps)
			mustLook(t, "anything", x, path, name)
			mustProps(t, "anything", x, path)
		}
		if _, err := tree.New(pick(r, snaps), int(r.Uint64())); err == api.OK {
			t.Fatal("New of anything")
		}
		last = x
	}
}

func TestHuge(t *testing.T) {
	huge := strings.Repeat("b", 1<<24)
	deepPath := strings.Repeat("b/", 1<<20) + "b"
	sets := flat(1 << 16).Sets
	for what, do := range map[string]func(t *api.Tenant){
		"sets":      func(t *api.Tenant) { t.Sets = sets },
		"snapshots": func(t *api.Tenant) { t.Sets[1].Snaps = snapsOf(1 << 18) },
		"tags":      func(t *api.Tenant) { t.Sets[1].Snaps[0].Tags = tagsOf(1 << 18) },
		"stages":    func(t *api.Tenant) { t.Stages = stagesOf(1 << 16) },
		"grants":    func(t *api.Tenant) { t.Grants = grantsOf(1 << 18) },
		"log":       func(t *api.Tenant) { t.Log = make([]api.Entry, 1<<18) },
		"body":      func(t *api.Tenant) { t.Sets[5].Body = slices.Repeat(content(1), 1<<18) },
		"own":       func(t *api.Tenant) { t.Sets[0].Own = ownOf(1 << 18) },
		"name":      func(t *api.Tenant) { t.Name = huge },
		"path":      func(t *api.Tenant) { t.Sets[5].Path = huge },
		"deep":      func(t *api.Tenant) { t.Sets[5].Path = deepPath },
		"origin":    func(t *api.Tenant) { t.Sets[5].Origin = huge + "@" + huge },
		"into":      func(t *api.Tenant) { t.Stages[1].Into = deepPath },
		"begin":     func(t *api.Tenant) { t.Stages[1].Begin.Data = huge },
		"numbers":   func(t *api.Tenant) { t.Quota, t.Next = math.MaxInt, math.MinInt },
	} {
		x := onto(full(), do)
		if tree.Check(x) != api.ErrState {
			t.Errorf("Check of huge %s", what)
		}
		y := tree.Copy(x)
		if !tree.Same(x, y) || tree.Same(x, full()) {
			t.Errorf("Same of huge %s", what)
		}
		for _, path := range []string{"", "beta", huge, deepPath} {
			if got := tree.Kids(x, path); len(got) > 2 && len(x.Sets) < 10 {
				t.Errorf("Kids of huge %s: %d", what, len(got))
			}
			tree.Find(x, path)
			tree.Clones(x, path, huge)
			mustProps(t, "huge "+what, x, path)
		}
	}
	if got := tree.Kids(api.Tenant{Sets: sets}, ""); len(got) != 1<<16-1 {
		t.Errorf("Kids of many: %d", len(got))
	}
	if _, err := tree.New(huge, 1); err != api.ErrName {
		t.Error("New of a huge name")
	}
}

// TestTheSameEachTime: whatever was asked ahead.
func TestTheSameEachTime(t *testing.T) {
	ask := func(x api.Tenant) string {
		had, err := tree.Props(x, "alpha/one")
		answers := []any{tree.Kids(x, "alpha"), tree.Clones(x, "alpha", ""), had, tree.Copy(x)}
		out := fmt.Sprint(tree.Check(x), tree.Find(x, "alpha/one"), err)
		for _, a := range answers {
			out += tell(reflect.ValueOf(a))
		}
		return out
	}
	for what, x := range few() {
		first := ask(x)
		for other, y := range few() {
			ask(y)
			if ask(x) != first {
				t.Fatalf("%s is answered unlike each time, behind %s", what, other)
			}
		}
	}
}
