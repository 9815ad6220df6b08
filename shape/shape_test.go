package shape_test

import (
	"fmt"
	"math/rand"
	"slices"
	"testing"

	"godown/api"
	"godown/shape"
	"godown/tree"
	"godown/usage"
)

// P16.1: Create, Destroy, Settle, and the order of errors

// TestExample: the chapter's.
func TestExample(t *testing.T) {
	x, err := tree.New("t", 20)
	if err != api.OK {
		t.Fatal(err)
	}
	y, err := shape.Create(x, "a")
	want := api.Tenant{Name: "t", Quota: 20, Next: 1, Sets: []api.Set{{}, {Path: "a"}}}
	if err != api.OK || !one(y, want) {
		t.Errorf("Create a: %d and %s", err, brief(y))
	}
	if len(x.Sets) != 1 {
		t.Error("Create a: the tenant ahead was changed")
	}
}

// TestTheTenants: full is what the other tests take it for.
func TestTheTenants(t *testing.T) {
	if usage.Tenant(full()) != fullCharge || chargeOf(full()) != fullCharge {
		t.Errorf("full's charge: %d", usage.Tenant(full()))
	}
	for what, do := range goodEdits() {
		if tree.Check(onto(full(), do)) != api.OK {
			t.Errorf("%s: a tenant that may not be", what)
		}
	}
	for what, do := range badEdits() {
		if tree.Check(onto(full(), do)) != api.ErrState {
			t.Errorf("%s: a tenant that may be", what)
		}
	}
	r := rand.New(rand.NewSource(161))
	for range 300 {
		if x := someTenant(r); tree.Check(x) != api.OK {
			t.Fatalf("a tenant that may not be: %s", brief(x))
		}
	}
}

// withSet: full with an empty set at that place.
func withSet(place int, path string) api.Tenant {
	x := full()
	x.Sets = slices.Insert(x.Sets, place, api.Set{Path: path})
	return x
}

func TestCreate(t *testing.T) {
	for path, place := range map[string]int{
		"0":                   1,
		"a":                   1,
		"-":                   1,
		"alph":                1,
		"alpha-":              2, // ahead of alpha/one: - is below /
		"alpha/0":             2,
		"alpha/one-":          3,
		"alpha/one/a":         3,
		"alpha/one/two/three": 4,
		"alpha/one/two/new":   4, // a stage into it is none of its business
		"alpha/one/twp":       4,
		"alpha0":              4,
		"beta/" + longestName: 6, // behind beta-2: / is above -
		"beta-2/x":            6,
		"gone":                7, // a grant beneath it, too
		"plain/under":         9,
		"plain-":              9,
		"z":                   10,
		longestName:           4,
		"_":                   1,
	} {
		mustBe(t, "full", full(), create(path), withSet(place, path))
	}
	mustBe(t, "alone", alone(9), create("b"), api.Tenant{Name: "t", Quota: 9, Next: 1, Sets: setsAt("", "b")})
	x := alone(9)
	x.Sets = setsAt("", longestName, longestPath[:33], longestPath[:50])
	want := deep(x, 0)
	want.Sets = append(want.Sets, api.Set{Path: longestPath})
	mustBe(t, "a path of four longest names", x, create(longestPath), want)
}

func TestCreateErrors(t *testing.T) {
	for _, path := range pathsOf(full()) {
		mustRefuse(t, "it is there", full(), create(path), api.ErrTwice)
	}
	mustRefuse(t, "alone, the root", alone(9), create(""), api.ErrTwice)
	for _, path := range []string{"a/b", "gone/away", "alpha/two/one", "alpha/one/two0/three", "plain/x/y", "one/two", "alph/one", "alpha-/one", "beta-2/x/y/z", "monday/a"} {
		mustRefuse(t, "its parent is not there", full(), create(path), api.ErrNone)
	}
	mustRefuse(t, "a fifth name", full(), create("alpha/one/two/three/four"), api.ErrName)
	for _, path := range noPaths() {
		mustRefuse(t, "no path", full(), create(path), api.ErrName)
		mustRefuse(t, "no path, alone", alone(9), create(path), api.ErrName)
	}
}

// TestCreateMany: up to 32 sets, and not one more.
func TestCreateMany(t *testing.T) {
	for n := 1; n < 32; n++ {
		x := flat(n)
		mustBe(t, "flat", x, create("z"), onto(x, func(x *api.Tenant) { x.Sets = append(x.Sets, api.Set{Path: "z"}) }))
	}
	mustRefuse(t, "32 sets", flat(32), create("z"), api.ErrCount)
	mustRefuse(t, "32 sets, a kid", flat(32), create("s00/z"), api.ErrCount)
	mustRefuse(t, "32 sets, ahead of all", flat(32), create("a"), api.ErrCount)
	x := alone(32)
	for n := 1; n < 32; n++ {
		y, err := shape.Create(x, fmt.Sprintf("n%d", n))
		if err != api.OK || len(y.Sets) != n+1 {
			t.Fatalf("set %d: %d", n+1, err)
		}
		x = y
	}
	mustRefuse(t, "32 sets, one by one", x, create("n32"), api.ErrCount)
}

// TestCreateCharge: an empty set is charged for 1.
func TestCreateCharge(t *testing.T) {
	for quota, want := range map[int]api.Errno{
		fullCharge + 2: api.OK, fullCharge + 1: api.OK, fullCharge: api.ErrQuota, fullCharge - 1: api.ErrQuota, 1: api.ErrQuota, 0: api.ErrQuota, maxAmount: api.OK,
	} {
		x := full()
		x.Quota = quota
		if got, err := mustAnswer(t, fmt.Sprintf("quota %d", quota), x, create("new")); err != want || err == api.OK && !usage.Fits(got) {
			t.Errorf("quota %d: Create %d, want %d", quota, err, want)
		}
	}
	mustRefuse(t, "a quota of 1", alone(1), create("a"), api.ErrQuota)
	mustBe(t, "a quota of 2", alone(2), create("a"), api.Tenant{Name: "t", Quota: 2, Next: 1, Sets: setsAt("", "a")})
	// Snapshots and stages are charged for, too.
	x := alone(3)
	x.Sets[0].Snaps = []api.Snap{{Name: "n", Guid: 1, Body: content(1)}}
	mustRefuse(t, "a snapshot", x, create("a"), api.ErrQuota)
	x = alone(3)
	x.Stages = []api.Stage{stageInto("b", at(1, 1))}
	mustRefuse(t, "a stage", x, create("a"), api.ErrQuota)
}

// without: full without the set of that path.
func without(path string) api.Tenant {
	x := full()
	x.Sets = slices.DeleteFunc(x.Sets, func(s api.Set) bool { return s.Path == path })
	return x
}

// TestDestroy: what goes is the set alone; its own Origin, its snapshots without
// tags, grants from it and log lines of it keep it from nothing.
func TestDestroy(t *testing.T) {
	for _, path := range []string{"alpha/one/two", "gamma", "plain"} {
		mustBe(t, "full", full(), destroy(path), without(path))
	}
	x := alone(1)
	x.Sets = setsAt("", "a")
	mustBe(t, "a quota that it was above", x, destroy("a"), alone(1))
	x.Quota = 0
	mustBe(t, "a quota that it stays above", x, destroy("a"), alone(0))
	x = flat(32)
	mustBe(t, "32 sets", x, destroy("s30"), flat(31))
	mustBe(t, "32 sets, the first", x, destroy("s00"), onto(x, func(x *api.Tenant) { x.Sets = slices.Delete(slices.Clone(x.Sets), 1, 2) }))
}

func TestDestroyErrors(t *testing.T) {
	for path, want := range map[string]api.Errno{
		"":                  api.ErrBusy, // the root
		"alpha":             api.ErrBusy, // kids, clones of the second snapshot
		"alpha/one":         api.ErrBusy, // a kid
		"beta":              api.ErrHeld, // by tags of the last snapshot
		"beta-2":            api.ErrBusy, // a clone
		"held":              api.ErrHeld, // by a tag of the only one
		"staged":            api.ErrBusy, // a stage into it
		"a":                 api.ErrNone,
		"alph":              api.ErrNone,
		"alpha/":            api.ErrName,
		"alpha/two":         api.ErrNone,
		"alpha/one/two/new": api.ErrNone, // just a stage into it
		"gone/away":         api.ErrNone, // just a grant from it
		"gone":              api.ErrNone,
		"monday":            api.ErrNone,
		"Plain":             api.ErrName,
		longestPath:         api.ErrNone,
	} {
		mustRefuse(t, "full", full(), destroy(path), want)
	}
	for _, path := range noPaths() {
		mustRefuse(t, "no path", full(), destroy(path), api.ErrName)
	}
	mustRefuse(t, "the root alone", alone(9), destroy(""), api.ErrBusy)
	mustRefuse(t, "alone", alone(9), destroy("a"), api.ErrNone)
}

// TestDestroyBusy: each cause by itself; without it the set goes.
func TestDestroyBusy(t *testing.T) {
	tagless := []api.Snap{{Name: "s1", Guid: 1}, {Name: "s2", Guid: 2}, {Name: "s3", Guid: 3}}
	begins := func() api.Tenant {
		x := alone(99)
		x.Sets = setsAt("", "a", "ab", "b", "c")
		x.Sets[1].Snaps = tagless
		return x
	}
	for what, do := range map[string]func(x *api.Tenant){
		"a kid":                 func(x *api.Tenant) { x.Sets = slices.Insert(x.Sets, 2, api.Set{Path: "a/b"}) },
		"a kid ahead of others": func(x *api.Tenant) { x.Sets = slices.Insert(x.Sets, 2, setsAt("a-", "a/-")...) },
		"kids of kids":          func(x *api.Tenant) { x.Sets = slices.Insert(x.Sets, 2, setsAt("a/b", "a/b/c")...) },
		"a clone of the first":  func(x *api.Tenant) { x.Sets[3].Origin = "a@s1" },
		"a clone of the middle": func(x *api.Tenant) { x.Sets[4].Origin = "a@s2" },
		"a clone of the last":   func(x *api.Tenant) { x.Sets[2].Origin = "a@s3" },
		"the root, a clone":     func(x *api.Tenant) { x.Sets[0].Origin = "a@s3" },
		"two clones":            func(x *api.Tenant) { x.Sets[2].Origin, x.Sets[3].Origin = "a@s1", "a@s1" },
		"a stage":               func(x *api.Tenant) { x.Stages = []api.Stage{stageInto("a")} },
		"a last stage":          func(x *api.Tenant) { x.Stages = []api.Stage{stageInto("-"), stageInto("0"), stageInto("a")} },
		"a first stage":         func(x *api.Tenant) { x.Stages = []api.Stage{stageInto("a"), stageInto("a/b"), stageInto("b")} },
		"a stage that is done": func(x *api.Tenant) {
			x.Stages = []api.Stage{stageInto("a")}
			x.Stages[0].Done = true
		},
	} {
		x := onto(begins(), do)
		mustRefuse(t, what, x, destroy("a"), api.ErrBusy)
		x.Sets[1].Snaps = slices.Clone(tagless)
		x.Sets[1].Snaps[0].Tags = []string{"keep"}
		mustRefuse(t, what+", and a tag", x, destroy("a"), api.ErrBusy)
	}
	if got, err := mustAnswer(t, "no cause", begins(), destroy("a")); err != api.OK || !slices.Equal(pathsOf(got), []string{"", "ab", "b", "c"}) {
		t.Errorf("no cause: %d", err)
	}
}

// TestDestroyNotBusy: what hangs on a set that is called likewise, or has just
// to do with it, is no cause.
func TestDestroyNotBusy(t *testing.T) {
	begins := func() api.Tenant {
		x := alone(99)
		x.Sets = setsAt("", "a", "a-", "a-/a", "aa", "b", "b/a")
		for _, i := range []int{0, 4, 5} {
			x.Sets[i].Snaps = []api.Snap{{Name: "a", Guid: 1, Tags: []string{"a"}}}
		}
		x.Sets[1].Snaps = []api.Snap{{Name: "a", Guid: 1, Body: content(1)}, {Name: "b", Guid: 2}}
		return x
	}
	for what, do := range map[string]func(x *api.Tenant){
		"nothing":              func(x *api.Tenant) {},
		"a clone of another":   func(x *api.Tenant) { x.Sets[2].Origin, x.Sets[3].Origin = "aa@a", "b@a" },
		"a clone of the root":  func(x *api.Tenant) { x.Sets[2].Origin = "@a" },
		"it is a clone":        func(x *api.Tenant) { x.Sets[1].Origin = "aa@a" },
		"it is the root's":     func(x *api.Tenant) { x.Sets[1].Origin = "@a" },
		"stages beside it":     func(x *api.Tenant) { x.Stages = []api.Stage{stageInto("a-"), stageInto("aa"), stageInto("b/a")} },
		"a stage beneath it":   func(x *api.Tenant) { x.Stages = []api.Stage{stageInto("a/a")} },
		"a stage of its name":  func(x *api.Tenant) { x.Stages = []api.Stage{stageInto("b")}; x.Stages[0].Begin.Name = "a" },
		"grants from it":       func(x *api.Tenant) { x.Grants = []api.Grant{{User: "a", Path: "a", Perms: 255}} },
		"grants from beneath":  func(x *api.Tenant) { x.Grants = []api.Grant{{User: "a", Path: "a/b", Perms: 1}} },
		"log lines of it":      func(x *api.Tenant) { x.Log = []api.Entry{{User: "a", Kind: 1, Path: "a"}} },
		"a Body and own":       func(x *api.Tenant) { x.Sets[1].Body, x.Sets[1].Own = content(1, 2), own("a=a") },
		"snapshots of its own": func(x *api.Tenant) { x.Sets[1].Snaps[1].Own = own("a=a") },
	} {
		x := onto(begins(), do)
		want := deep(x, 0)
		want.Sets = slices.Delete(want.Sets, 1, 2)
		mustBe(t, what, x, destroy("a"), want)
	}
}

// TestDestroyHeld: by a tag of any of its snapshots, not by those of others.
func TestDestroyHeld(t *testing.T) {
	for place := range 16 {
		for tags := 1; tags <= 4; tags++ {
			x := alone(99)
			x.Sets = setsAt("", "a", "b")
			for i := range 16 {
				x.Sets[1].Snaps = append(x.Sets[1].Snaps, api.Snap{Name: fmt.Sprintf("n%d", i), Guid: 1 + i})
			}
			x.Sets[1].Snaps[place].Tags = []string{"a", "b", "c", "d"}[:tags]
			x.Sets[2].Snaps = []api.Snap{{Name: "n0", Guid: 1}}
			mustRefuse(t, "a tag", x, destroy("a"), api.ErrHeld)
			mustBe(t, "a tag of another's", x, destroy("b"), onto(x, func(x *api.Tenant) { x.Sets = x.Sets[:2] }))
			x.Sets[1].Snaps[place].Tags = []string{}
			mustBe(t, "no tag", x, destroy("a"), onto(x, func(x *api.Tenant) { x.Sets = []api.Set{x.Sets[0], x.Sets[2]} }))
		}
	}
}

func TestSettle(t *testing.T) {
	for quota, want := range map[int]api.Errno{
		fullCharge: api.OK, fullCharge + 1: api.OK, fullCharge - 1: api.ErrQuota, maxAmount: api.OK, 1: api.ErrQuota, 0: api.ErrQuota, -1: api.ErrState, maxAmount + 1: api.ErrState,
	} {
		x := full()
		x.Quota = quota
		what := fmt.Sprintf("quota %d", quota)
		if want == api.OK {
			mustBe(t, what, x, settle(), x)
		} else {
			mustRefuse(t, what, x, settle(), want)
		}
	}
	mustBe(t, "alone", alone(1), settle(), alone(1))
	mustRefuse(t, "alone, quota 0", alone(0), settle(), api.ErrQuota)
	mustRefuse(t, "zero", api.Tenant{}, settle(), api.ErrState)
	for what, do := range badEdits() {
		x := onto(full(), do)
		mustRefuse(t, what, x, settle(), api.ErrState)
		if x.Quota == 60 {
			x.Quota = 0
			mustRefuse(t, what+", quota 0", x, settle(), api.ErrState)
		}
	}
}

// asks: each call, as it is answered of full without an error, and with each
// error that its arguments can have.
func asks() []ask {
	return []ask{
		settle(), create("new"), create("plain"), create(""), create("new/kid"), create("New"),
		destroy("plain"), destroy("new"), destroy(""), destroy("alpha"), destroy("beta"), destroy("plain/"),
		write("plain", 3, text(1)), write("alpha", 3, text(9)), write("new", 3, text(1)), write("plain", -1, text(1)), write("plain", 1024, "short"), write("plain", 3, "short"), write("plain@", 3, text(1)),
		free("alpha", 1, 3), free("new", 1, 3), free("alpha", 1024, 1), free("alpha", 1, 0), free("alpha", 1, 1024), free("//", 1, 3),
		set("plain", "a", "1"), set("plain", "p3", "1"), set("new", "a", "1"), set("plain", "A", "1"), set("plain", "a", "\x00"), set("PLAIN", "a", "1"),
		unset("plain", "p3"), unset("plain", "z"), unset("plain", "Z"), unset("new", "p3"), unset("/", "p3"),
	}
}

// TestStateGoesAhead: of a tenant that may not be, whatever else is wrong.
func TestStateGoesAhead(t *testing.T) {
	for what, do := range badEdits() {
		for _, a := range asks() {
			mustRefuse(t, what, onto(full(), do), a, api.ErrState)
		}
	}
	for _, a := range asks() {
		mustRefuse(t, "zero", api.Tenant{}, a, api.ErrState)
		mustRefuse(t, "filled", filled[api.Tenant](2), a, api.ErrState)
	}
}

// TestNameGoesAhead: of what is no path, whatever else is wrong but the tenant.
func TestNameGoesAhead(t *testing.T) {
	for _, what := range []string{"nothing", "Quota 0", "32 sets", "full Own"} {
		for _, path := range noPaths() {
			for _, a := range []ask{create(path), destroy(path), write(path, 3, text(1)), write(path, -1, "short"), free(path, 1, 3), free(path, -1, 0), set(path, "a", "1"), set(path, "A", "\x00"), unset(path, "atime"), unset(path, "A")} {
				mustRefuse(t, what, onto(full(), goodEdits()[what]), a, api.ErrName)
			}
		}
	}
}

// TestTwoErrors: of each two causes that can be there at once, the one that the
// chapter names first counts.
func TestTwoErrors(t *testing.T) {
	packed := func(quota int) api.Tenant { // 32 sets
		x := flat(32)
		x.Quota = quota
		return x
	}
	kept := full()
	kept.Sets[1].Snaps[0].Tags = []string{"keep"}
	kept.Sets[5].Snaps[0].Tags = []string{"keep"}
	kept.Sets[9].Snaps = []api.Snap{{Name: "n", Guid: 1, Tags: []string{"keep"}}}
	kept.Sets[0].Snaps[0].Tags = []string{"keep"}
	over := full()
	over.Quota = 0
	crowd := full()
	crowd.Sets[8].Own = ownOf(8)
	for _, k := range []struct {
		what string
		x    api.Tenant
		a    ask
		want api.Errno
	}{
		{"there, 32 sets", packed(99), create("s03"), api.ErrTwice},
		{"there, no room", packed(0), create("s03"), api.ErrTwice},
		{"there, no room", over, create("plain"), api.ErrTwice},
		{"the root, which is there and has no parent", over, create(""), api.ErrTwice},
		{"no parent, 32 sets", packed(99), create("no/parent"), api.ErrNone},
		{"no parent, no room", over, create("no/parent"), api.ErrNone},
		{"32 sets, no room", packed(32), create("new"), api.ErrCount},
		{"32 sets, no room", packed(0), create("new"), api.ErrCount},
		{"kids, a tag", kept, destroy("alpha"), api.ErrBusy},
		{"a clone, a tag", kept, destroy("beta-2"), api.ErrBusy},
		{"a stage, a tag", kept, destroy("staged"), api.ErrBusy},
		{"the root, a tag", kept, destroy(""), api.ErrBusy},
		{"a tag, no room", over, destroy("held"), api.ErrHeld},
		{"a kid, no room", over, destroy("alpha"), api.ErrBusy},
		{"no set, no index", full(), write("new", -1, text(1)), api.ErrNone},
		{"no set, no Data", full(), write("new", 1, ""), api.ErrNone},
		{"no set, no room", over, write("new", 1, text(1)), api.ErrNone},
		{"no index, no Data", full(), write("plain", 1024, ""), api.ErrRange},
		{"no index, no room", over, write("plain", 1024, text(1)), api.ErrRange},
		{"no Data, no room", over, write("plain", 1, "b"), api.ErrLong},
		{"no set, no index", full(), free("new", -1, 1), api.ErrNone},
		{"no set, no count", full(), free("new", 1, 0), api.ErrNone},
		{"no set, no name", full(), set("new", "A", "1"), api.ErrNone},
		{"no set, no value", full(), set("new", "a", "\x00"), api.ErrNone},
		{"no name, no value", full(), set("plain", "A", "\x00"), api.ErrName},
		{"no name, 8 properties", crowd, set("plain", "A", "1"), api.ErrName},
		{"no value, 8 properties", crowd, set("plain", "a", "\x00"), api.ErrState},
		{"no value of one that is there", crowd, set("plain", "p3", "\x00"), api.ErrState},
		{"8 properties, no room", onto(crowd, func(x *api.Tenant) { x.Quota = 0 }), set("plain", "a", "1"), api.ErrCount},
		{"no property, no room", over, unset("plain", "a"), api.ErrNone},
	} {
		mustRefuse(t, k.what, k.x, k.a, k.want)
	}
}
