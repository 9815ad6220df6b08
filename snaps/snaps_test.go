package snaps_test

import (
	"fmt"
	"math/rand"
	"slices"
	"testing"

	"godown/api"
	"godown/snaps"
	"godown/tree"
	"godown/usage"
)

// P17.1: Snapshot and Destroy, and the order of errors

// TestExample: the chapter's.
func TestExample(t *testing.T) {
	x, err := tree.New("t", 20)
	if err != api.OK {
		t.Fatal(err)
	}
	y, guid, err := snaps.Snapshot(x, "", "a")
	want := api.Tenant{Name: "t", Quota: 20, Next: 2, Sets: []api.Set{{Snaps: []api.Snap{{Name: "a", Guid: 1}}}}}
	if err != api.OK || guid != 1 || !one(y, want) {
		t.Errorf("Snapshot a: %d, %d and %s", err, guid, brief(y))
	}
	if len(x.Sets[0].Snaps) != 0 || x.Next != 1 {
		t.Error("Snapshot a: the tenant ahead was changed")
	}
}

// TestTheTenants: full is what the other tests take it for.
func TestTheTenants(t *testing.T) {
	if usage.Tenant(full()) != fullCharge || chargeOf(full()) != fullCharge || len(snapsAll(full())) != 9 {
		t.Errorf("full's charge: %d", usage.Tenant(full()))
	}
	for what, do := range goodEdits() {
		if tree.Check(onto(full(), do)) != api.OK {
			t.Errorf("%s: a tenant that may not be", what)
		}
	}
	for what, do := range badEdits() {
		if tree.Check(onto(full(), do)) != api.ErrState {
			t.Errorf("%s: a tenant that may be", what)
		}
	}
	r := rand.New(rand.NewSource(171))
	for range 300 {
		if x := someTenant(r); tree.Check(x) != api.OK || usage.Tenant(x) != chargeOf(x) {
			t.Fatalf("a tenant by chance that may not be: %s", brief(x))
		}
	}
}

// with: full, with what do does to its set at that place.
func with(place int, do func(s *api.Set)) api.Tenant {
	x := full()
	do(&x.Sets[place])
	return x
}

// TestSnapshot: of each set; what it has goes in, tags and Origin do not.
func TestSnapshot(t *testing.T) {
	for place, path := range pathsOf(full()) {
		for _, name := range []string{"later", "a", "0", "-", "_", "zz", longestName, "keep", "x", "seen-2", "monda", "monday-"} {
			want := with(place, func(s *api.Set) {
				s.Snaps = append(s.Snaps, api.Snap{Name: name, Guid: 90, Body: s.Body, Own: s.Own})
			})
			want.Next = 91
			mustHave(t, "full", full(), snapshot(path, name), 90, want)
		}
	}
	// A name that just another set's snapshot has.
	want := with(4, func(s *api.Set) { s.Snaps = append(s.Snaps, api.Snap{Name: "monday", Guid: 90}) })
	want.Next = 91
	mustHave(t, "another's name", full(), snapshot("beta", "monday"), 90, want)
	want = with(3, func(s *api.Set) {
		s.Snaps = append(s.Snaps, api.Snap{Name: "seen", Guid: 90, Body: content(4, 5), Own: own("z=last")})
	})
	want.Next = 91
	mustHave(t, "told whole", full(), snapshot("alpha/one/two", "seen"), 90, want)
	want = with(9, func(s *api.Set) { s.Snaps = []api.Snap{{Name: "monday", Guid: 90, Body: content(3)}} })
	want.Next = 91
	mustHave(t, "a clone, told whole", full(), snapshot("zeta", "monday"), 90, want)
}

// TestSnapshotGuid: the greater of Next and one more than the last one's.
func TestSnapshotGuid(t *testing.T) {
	for _, k := range []struct {
		next  int
		guids []int
		want  int
	}{
		{1, nil, 1}, {2, nil, 2}, {90, nil, 90},
		{1, []int{1}, 2}, {2, []int{1}, 2}, {3, []int{1}, 3}, {1, []int{7}, 8},
		{7, []int{7}, 8}, {8, []int{7}, 8}, {9, []int{7}, 9},
		{1, []int{4, 9}, 10}, {5, []int{4, 9}, 10}, {9, []int{4, 9}, 10}, {10, []int{4, 9}, 10}, {11, []int{4, 9}, 11}, {500, []int{4, 9}, 500},
		{1, []int{1, 2, 3, 50}, 51}, {49, []int{1, 2, 3, 50}, 51}, {52, []int{1, 2, 3, 50}, 52},
		{maxAmount - 2, nil, maxAmount - 2}, {maxAmount - 1, nil, maxAmount - 1}, {maxAmount, nil, -1},
		{maxAmount - 1, []int{1}, maxAmount - 1}, {maxAmount, []int{1}, -1},
		{1, []int{maxAmount - 3}, maxAmount - 2}, {1, []int{maxAmount - 2}, maxAmount - 1}, {1, []int{maxAmount - 1}, -1}, {1, []int{maxAmount}, -1},
		{maxAmount - 1, []int{maxAmount - 2}, maxAmount - 1}, {maxAmount - 1, []int{maxAmount - 1}, -1}, {maxAmount, []int{maxAmount - 3}, -1}, {maxAmount, []int{maxAmount}, -1},
		{1, []int{5, maxAmount - 2}, maxAmount - 1}, {1, []int{5, maxAmount - 1}, -1},
	} {
		x := alone(1000)
		x.Next = k.next
		for i, guid := range k.guids {
			x.Sets[0].Snaps = append(x.Sets[0].Snaps, api.Snap{Name: fmt.Sprintf("n%d", i), Guid: guid})
		}
		// What other sets have does not count.
		x.Sets = append(x.Sets, api.Set{Path: "a", Snaps: []api.Snap{{Name: "other", Guid: maxAmount}}}, api.Set{Path: "b"})
		what := fmt.Sprintf("Next %d behind %v", k.next, k.guids)
		if k.want < 0 {
			mustRefuse(t, what, x, snapshot("", "new"), api.ErrOver)
			continue
		}
		want := deep(x, 0)
		want.Sets[0].Snaps = append(want.Sets[0].Snaps, api.Snap{Name: "new", Guid: k.want})
		want.Next = k.want + 1
		mustHave(t, what, x, snapshot("", "new"), k.want, want)
		mustRefuse(t, what, x, snapshot("a", "new"), api.ErrOver)
	}
}

// TestSnapshotMany: up to 16 of a set, and not one more.
func TestSnapshotMany(t *testing.T) {
	for n := range 16 {
		x := alone(1000)
		x.Sets = setsAt("", "a")
		x.Sets[1].Snaps = snapsOf(n)
		x.Sets[0].Snaps = snapsOf(16)
		want := deep(x, 0)
		want.Sets[1].Snaps = append(snapsOf(n), api.Snap{Name: "new", Guid: n + 1})
		want.Next = n + 2
		mustHave(t, fmt.Sprintf("%d snapshots", n), x, snapshot("a", "new"), n+1, want)
		mustRefuse(t, "16 snapshots", x, snapshot("", "new"), api.ErrCount)
	}
	x := alone(17)
	for n := 1; n <= 16; n++ {
		name := fmt.Sprintf("n%d", n)
		got := mustAnswer(t, "one by one", x, snapshot("", name))
		if got.Err != api.OK || got.Guid != n || got.Tenant.Next != n+1 {
			t.Fatalf("snapshot %d: %d, Guid %d", n, got.Err, got.Guid)
		}
		x = got.Tenant
	}
	if !one(x.Sets[0].Snaps, snapsOf(16)) {
		t.Error("16 snapshots, one by one")
	}
	mustRefuse(t, "16 snapshots, one by one", x, snapshot("", "n17"), api.ErrCount)
	mustRefuse(t, "16 snapshots, one by one", x, snapshot("", "n16"), api.ErrTwice)
}

// TestSnapshotCharge: a snapshot is charged for 1 and its blocks.
func TestSnapshotCharge(t *testing.T) {
	for path, charge := range map[string]int{"": 3, "alpha": 6, "alpha/one": 1, "alpha/one/two": 3, "beta": 1, "beta-2": 2, "plain": 1, "staged": 2, "zeta": 2} {
		for spare := -3; spare <= 3; spare++ {
			x := full()
			x.Quota = fullCharge + charge + spare
			got := mustAnswer(t, fmt.Sprintf("%d to spare", spare), x, snapshot(path, "later"))
			if spare < 0 && got.Err != api.ErrQuota || spare >= 0 && (got.Err != api.OK || !usage.Fits(got.Tenant)) {
				t.Errorf("%q, %d to spare: %d", path, spare, got.Err)
			}
		}
	}
	for _, quota := range []int{0, 1, fullCharge - 1, fullCharge} {
		mustRefuse(t, "no room", onto(full(), func(x *api.Tenant) { x.Quota = quota }), snapshot("plain", "new"), api.ErrQuota)
	}
	mustRefuse(t, "a quota of 1", alone(1), snapshot("", "a"), api.ErrQuota)
	mustHave(t, "a quota of 2", alone(2), snapshot("", "a"), 1, api.Tenant{Name: "t", Quota: 2, Next: 2, Sets: []api.Set{{Snaps: []api.Snap{{Name: "a", Guid: 1}}}}})
	x := alone(5000)
	x.Sets[0].Body, x.Sets[0].Own = span(0, 1024), ownOf(8)
	want := deep(x, 0)
	want.Next, want.Sets[0].Snaps = 2, []api.Snap{{Name: "a", Guid: 1, Body: span(0, 1024), Own: ownOf(8)}}
	mustHave(t, "a full Body", x, snapshot("", "a"), 1, want)
	x.Quota = 2049
	mustRefuse(t, "a full Body, one too much", x, snapshot("", "a"), api.ErrQuota)
}

func TestSnapshotErrors(t *testing.T) {
	for _, n := range snapsAll(full()) {
		mustRefuse(t, "it is there", full(), snapshot(n.Path, n.Name), api.ErrTwice)
	}
	for _, path := range noSets() {
		mustRefuse(t, "no such set", full(), snapshot(path, "new"), api.ErrNone)
		mustRefuse(t, "no such set", full(), snapshot(path, "monday"), api.ErrNone)
	}
	for _, path := range noPaths() {
		mustRefuse(t, "no path", full(), snapshot(path, "new"), api.ErrName)
		mustRefuse(t, "no path, alone", alone(9), snapshot(path, "new"), api.ErrName)
	}
	for _, name := range noSnapNames() {
		mustRefuse(t, "no name", full(), snapshot("alpha", name), api.ErrName)
		mustRefuse(t, "no name, alone", alone(9), snapshot("", name), api.ErrName)
	}
}

// noSets: paths of which full has no set.
func noSets() []string {
	return []string{"a", "alph", "alpha-", "alpha0", "alpha/two", "alpha/one/two/new", "alpha/one/two/three", "gone/away", "gone", "monday", "keep", "one", "one/two", "zeta-", longestName, longestPath}
}

// without: full without that snapshot.
func without(path, name string) api.Tenant {
	x := full()
	s := &x.Sets[slices.Index(pathsOf(x), path)]
	s.Snaps = slices.DeleteFunc(s.Snaps, func(n api.Snap) bool { return n.Name == name })
	return x
}

func TestDestroy(t *testing.T) {
	for n, want := range map[snapOf]api.Errno{
		{"", "monday"}:               api.ErrBusy, // a clone
		{"alpha", "monday"}:          api.OK,
		{"alpha", "noon"}:            api.ErrHeld,
		{"alpha", "friday"}:          api.ErrBusy, // two clones
		{"alpha/one/two", "monday"}:  api.OK,
		{"alpha/one/two", "tuesday"}: api.OK,
		{"beta", "old"}:              api.OK,
		{"beta", "new"}:              api.ErrHeld,
		{"beta-2", "seen"}:           api.ErrBusy, // and a tag
	} {
		if want == api.OK {
			mustBe(t, "full", full(), destroy(n.Path, n.Name), without(n.Path, n.Name))
		} else {
			mustRefuse(t, "full", full(), destroy(n.Path, n.Name), want)
		}
	}
	// Nothing is settled.
	x := alone(0)
	x.Sets[0].Snaps = snapsOf(1)
	mustBe(t, "quota 0", x, destroy("", "n1"), alone(0))
	x.Next = maxAmount
	mustBe(t, "Next stays", x, destroy("", "n1"), onto(alone(0), func(x *api.Tenant) { x.Next = maxAmount }))
}

// TestDestroyEach: of each place among so many, told by its name alone.
func TestDestroyEach(t *testing.T) {
	for n := 1; n <= 16; n++ {
		for place := range n {
			x := alone(99)
			x.Sets = setsAt("", "a", "b")
			for i := range x.Sets {
				x.Sets[i].Snaps = snapsOf(n)
			}
			want := deep(x, 0)
			want.Sets[1].Snaps = append(snapsOf(n)[:place], snapsOf(n)[place+1:]...)
			mustBe(t, fmt.Sprintf("%d snapshots", n), x, destroy("a", fmt.Sprintf("n%d", place+1)), want)
			mustRefuse(t, "gone", want, destroy("a", fmt.Sprintf("n%d", place+1)), api.ErrNone)
		}
	}
}

func TestDestroyErrors(t *testing.T) {
	for _, path := range noSets() {
		mustRefuse(t, "no such set", full(), destroy(path, "monday"), api.ErrNone)
	}
	for _, n := range noSnaps() {
		mustRefuse(t, "no such snapshot", full(), destroy(n.Path, n.Name), api.ErrNone)
	}
	for _, path := range noPaths() {
		mustRefuse(t, "no path", full(), destroy(path, "monday"), api.ErrName)
	}
	for _, name := range noSnapNames() {
		mustRefuse(t, "no name", full(), destroy("alpha", name), api.ErrName)
	}
	mustRefuse(t, "alone", alone(9), destroy("", "a"), api.ErrNone)
}

// noSnaps: snapshots that full's sets do not have; others may.
func noSnaps() []snapOf {
	return []snapOf{
		{"", "friday"}, {"", "a"}, {"", "tuesday"}, {"alpha", "tuesday"}, {"alpha", "mon"}, {"alpha", "mondays"}, {"alpha", "keep"}, {"alpha", "a"},
		{"alpha/one", "monday"}, {"alpha/one", "friday"}, {"alpha/one/two", "friday"}, {"beta", "monday"}, {"beta", "seen"}, {"beta-2", "old"},
		{"gamma", "seen"}, {"plain", "monday"}, {"staged", "first"}, {"staged", "monday"}, {"zeta", "friday"}, {"zeta", longestName},
	}
}

// begins: a tenant with three snapshots of a, of which nothing hangs on any.
func begins() api.Tenant {
	x := alone(99)
	x.Next = 50
	x.Sets = setsAt("", "a", "a-", "aa", "b", "c")
	for i := range x.Sets {
		x.Sets[i].Snaps = snapsOf(3)
	}
	return x
}

// TestDestroyBusy: each clone by itself, wherever it stands, ahead of tags.
func TestDestroyBusy(t *testing.T) {
	for place := range 3 {
		name := fmt.Sprintf("n%d", place+1)
		for what, clones := range map[string][]int{
			"the root, a clone": {0}, "the next one": {2}, "the last one": {5}, "two clones": {2, 4}, "all others": {0, 2, 3, 4, 5},
		} {
			x := begins()
			for _, i := range clones {
				x.Sets[i].Origin = "a@" + name
			}
			mustRefuse(t, what, x, destroy("a", name), api.ErrBusy)
			tagged := deep(x, 0)
			tagged.Sets[1].Snaps[place].Tags = []string{"keep"}
			mustRefuse(t, what+", and a tag", tagged, destroy("a", name), api.ErrBusy)
			// The others go.
			for other := range 3 {
				if other != place {
					want := deep(x, 0)
					want.Sets[1].Snaps = slices.Delete(want.Sets[1].Snaps, other, other+1)
					mustBe(t, what+", of another", x, destroy("a", fmt.Sprintf("n%d", other+1)), want)
				}
			}
		}
	}
}

// TestDestroyNotBusy: what hangs on other snapshots, or has just to do with it,
// is no cause.
func TestDestroyNotBusy(t *testing.T) {
	for what, do := range map[string]func(x *api.Tenant){
		"nothing":                 func(x *api.Tenant) {},
		"clones of other sets'":   func(x *api.Tenant) { x.Sets[4].Origin, x.Sets[5].Origin = "aa@n2", "@n2" },
		"a clone of a-'s":         func(x *api.Tenant) { x.Sets[4].Origin = "a-@n2" },
		"clones of its others":    func(x *api.Tenant) { x.Sets[4].Origin, x.Sets[5].Origin = "a@n1", "a@n3" },
		"its set is a clone":      func(x *api.Tenant) { x.Sets[1].Origin = "aa@n2" },
		"tags of its others":      func(x *api.Tenant) { x.Sets[1].Snaps[0].Tags, x.Sets[1].Snaps[2].Tags = []string{"a"}, []string{"b"} },
		"tags of other sets'":     func(x *api.Tenant) { x.Sets[0].Snaps[1].Tags, x.Sets[2].Snaps[1].Tags = []string{"a"}, []string{"n2"} },
		"a kid":                   func(x *api.Tenant) { x.Sets = slices.Insert(x.Sets, 3, api.Set{Path: "a/b"}) },
		"a stage into its set":    func(x *api.Tenant) { x.Stages = []api.Stage{stageInto("a")} },
		"a stage of its name":     func(x *api.Tenant) { x.Stages = []api.Stage{stageInto("a")}; x.Stages[0].Begin.Name = "n2" },
		"a stage from its Guid":   func(x *api.Tenant) { x.Stages = []api.Stage{stageInto("a")}; x.Stages[0].Begin.From = 2 },
		"grants from its set":     func(x *api.Tenant) { x.Grants = []api.Grant{{User: "a", Path: "a", Perms: 255}} },
		"log lines of it":         func(x *api.Tenant) { x.Log = []api.Entry{{User: "a", Kind: 1, Path: "a"}} },
		"blocks and properties":   func(x *api.Tenant) { x.Sets[1].Snaps[1].Body, x.Sets[1].Snaps[1].Own = content(1), own("a=b") },
		"a quota that is too low": func(x *api.Tenant) { x.Quota = 1 },
	} {
		x := onto(begins(), do)
		want := deep(x, 0)
		want.Sets[1].Snaps = slices.Delete(want.Sets[1].Snaps, 1, 2)
		mustBe(t, what, x, destroy("a", "n2"), want)
	}
}

// TestDestroyHeld: by any number of tags.
func TestDestroyHeld(t *testing.T) {
	for place := range 3 {
		for tags := range 5 {
			x := begins()
			x.Sets[1].Snaps[place].Tags = []string{"a", "b", "c", "d"}[:tags]
			name := fmt.Sprintf("n%d", place+1)
			if tags > 0 {
				mustRefuse(t, "tags", x, destroy("a", name), api.ErrHeld)
				continue
			}
			want := deep(x, 0)
			want.Sets[1].Snaps = slices.Delete(want.Sets[1].Snaps, place, place+1)
			mustBe(t, "no tag", x, destroy("a", name), want)
		}
	}
}

// asks: each call, as it is answered of full without an error, and with each
// error that its arguments can have.
func asks() []ask {
	return []ask{
		snapshot("plain", "new"), snapshot("alpha", "new"), snapshot("", "a"), snapshot("alpha", "monday"), snapshot("new", "a"), snapshot("alpha", "A"), snapshot("A", "a"), snapshot("alpha", ""),
		destroy("alpha", "monday"), destroy("beta", "old"), destroy("", "monday"), destroy("beta-2", "seen"), destroy("beta", "new"), destroy("alpha", "a"), destroy("new", "monday"), destroy("alpha", "Monday"), destroy("alpha/", "monday"),
		rollback("alpha", "friday"), rollback("beta", "new"), rollback("", "monday"), rollback("alpha", "noon"), rollback("plain", "n16"), rollback("alpha", "a"), rollback("new", "monday"), rollback("alpha", ""), rollback("//", "friday"),
		clone("alpha", "monday", "new"), clone("", "monday", "plain/new"), clone("beta-2", "seen", "beta/a"), clone("alpha", "monday", "plain"), clone("alpha", "monday", ""), clone("alpha", "monday", "new/a"), clone("alpha", "a", "new"), clone("new", "monday", "zz"), clone("alpha", "monday", "New"), clone("alpha", "A", "new"), clone("alpha@", "monday", "new"), clone("", "n1", "new"),
		rename("alpha", "friday", "new"), rename("beta", "old", "older"), rename("", "monday", "a"), rename("alpha", "friday", "monday"), rename("alpha", "friday", "friday"), rename("alpha", "a", "b"), rename("new", "a", "b"), rename("alpha", "friday", "A"), rename("alpha", "A", "new"), rename("A", "friday", "new"), rename("plain", "n1", "n16"),
	}
}

// TestStateGoesAhead: of a tenant that may not be, whatever else is wrong.
func TestStateGoesAhead(t *testing.T) {
	for what, do := range badEdits() {
		for _, a := range asks() {
			mustRefuse(t, what, onto(full(), do), a, api.ErrState)
		}
	}
	for _, a := range asks() {
		mustRefuse(t, "zero", api.Tenant{}, a, api.ErrState)
		mustRefuse(t, "filled", filled[api.Tenant](2), a, api.ErrState)
	}
}

// TestNameGoesAhead: of what is no path or no name, whatever else is wrong but
// the tenant.
func TestNameGoesAhead(t *testing.T) {
	for _, what := range []string{"nothing", "Quota 0", "32 sets", "16 snapshots", "Next MaxAmount"} {
		x := onto(full(), goodEdits()[what])
		for _, path := range noPaths() {
			for _, a := range []ask{
				snapshot(path, "a"), snapshot(path, "A"), destroy(path, "monday"), destroy(path, ""), rollback(path, "monday"), rollback(path, "/"),
				clone(path, "monday", "new"), clone(path, "A", "NEW"), rename(path, "monday", "a"), rename(path, "a", "a"), rename(path, "A", ""),
				clone("alpha", "monday", path), clone("alpha", "none", path), clone("none", "monday", path), clone("", "n1", path), clone("a@", "A", path),
			} {
				mustRefuse(t, what, x, a, api.ErrName)
			}
		}
		for _, name := range noSnapNames() {
			for _, a := range []ask{
				snapshot("alpha", name), snapshot("none", name), snapshot("plain", name), destroy("alpha", name), destroy("none", name), rollback("alpha", name), rollback("none", name),
				clone("alpha", name, "new"), clone("none", name, "new"), clone("alpha", name, "plain"), clone("", name, ""), clone("", name, "none/new"),
				rename("alpha", name, "new"), rename("none", name, "new"), rename("alpha", name, "monday"), rename("alpha", "monday", name), rename("alpha", "none", name), rename("none", "none", name), rename("", name, name),
			} {
				mustRefuse(t, what, x, a, api.ErrName)
			}
		}
	}
}

// TestTwoErrors: of each two causes that can be there at once, the one that the
// chapter names first counts.
func TestTwoErrors(t *testing.T) {
	packed := func(do func(x *api.Tenant)) api.Tenant { // 16 snapshots of plain
		return onto(onto(full(), goodEdits()["16 snapshots"]), do)
	}
	nothing := func(x *api.Tenant) {}
	noQuota := func(x *api.Tenant) { x.Quota = 0 }
	noGuid := func(x *api.Tenant) { x.Next = maxAmount }
	neither := func(x *api.Tenant) { x.Quota, x.Next = 0, maxAmount }
	for _, k := range []struct {
		what string
		x    api.Tenant
		a    ask
		want api.Errno
	}{
		{"no set, no Guid, no room", onto(full(), neither), snapshot("new", "a"), api.ErrNone},
		{"there, 16 snapshots", packed(nothing), snapshot("plain", "n3"), api.ErrTwice},
		{"there, 16 snapshots, no Guid, no room", packed(neither), snapshot("plain", "n16"), api.ErrTwice},
		{"there, no Guid", onto(full(), noGuid), snapshot("alpha", "noon"), api.ErrTwice},
		{"there, no room", onto(full(), noQuota), snapshot("alpha", "noon"), api.ErrTwice},
		{"16 snapshots, no Guid", packed(noGuid), snapshot("plain", "new"), api.ErrCount},
		{"16 snapshots, no room", packed(noQuota), snapshot("plain", "new"), api.ErrCount},
		{"16 snapshots, no Guid, no room", packed(neither), snapshot("plain", "new"), api.ErrCount},
		{"no Guid, no room", onto(full(), neither), snapshot("plain", "new"), api.ErrOver},
		{"a clone, a tag", full(), destroy("beta-2", "seen"), api.ErrBusy},
		{"a clone, no room", onto(full(), noQuota), destroy("", "monday"), api.ErrBusy},
		{"a tag, no room", onto(full(), noQuota), destroy("beta", "new"), api.ErrHeld},
		{"no snapshot, no room", onto(full(), noQuota), destroy("beta", "seen"), api.ErrNone},
		{"no snapshot, no room", onto(full(), noQuota), rollback("beta", "seen"), api.ErrNone},
		{"no set, no room", onto(full(), noQuota), rollback("new", "seen"), api.ErrNone},
		{"not the last one, no room", onto(full(), noQuota), rollback("beta", "old"), api.ErrBusy},
		{"not the last one, a tag", full(), rollback("alpha", "noon"), api.ErrBusy},
		{"no snapshot, to is there", full(), clone("alpha", "none", "plain"), api.ErrNone},
		{"no snapshot, to is the root", full(), clone("alpha", "none", ""), api.ErrNone},
		{"no set, to is there", full(), clone("none", "monday", "plain"), api.ErrNone},
		{"no snapshot, 32 sets", flat(32), clone("", "none", "new"), api.ErrNone},
		{"to is the root, which is there and has no parent", full(), clone("alpha", "monday", ""), api.ErrTwice},
		{"to is there, 32 sets", flat(32), clone("", "n1", "s03"), api.ErrTwice},
		{"to is the root, 32 sets", flat(32), clone("", "n1", ""), api.ErrTwice},
		{"to is there, no room", onto(full(), noQuota), clone("alpha", "monday", "plain"), api.ErrTwice},
		{"no parent, 32 sets", flat(32), clone("", "n1", "none/new"), api.ErrNone},
		{"no parent, no room", onto(full(), noQuota), clone("alpha", "monday", "none/new"), api.ErrNone},
		{"32 sets, no room", onto(flat(32), noQuota), clone("", "n1", "new"), api.ErrCount},
		{"no snapshot, to is there", full(), rename("alpha", "none", "monday"), api.ErrNone},
		{"no set, to is there", full(), rename("none", "monday", "monday"), api.ErrNone},
		{"no snapshot, and to is the same", full(), rename("alpha", "none", "none"), api.ErrNone},
		{"to is there, a tag, no room", onto(full(), noQuota), rename("alpha", "noon", "monday"), api.ErrTwice},
	} {
		mustRefuse(t, k.what, k.x, k.a, k.want)
	}
}
