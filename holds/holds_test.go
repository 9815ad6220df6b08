package holds_test

import (
	"fmt"
	"math/rand"
	"slices"
	"strings"
	"testing"

	"godown/api"
	"godown/holds"
	"godown/snaps"
	"godown/tree"
)

// P18.1: Hold, Release, Held, All, and the order of errors

// TestExample: the chapter's.
func TestExample(t *testing.T) {
	x, err := tree.New("t", 20)
	if err != api.OK {
		t.Fatal(err)
	}
	x, _, err = snaps.Snapshot(x, "", "a")
	if err != api.OK {
		t.Fatal(err)
	}
	y, err := holds.Hold(x, "", "a", "h")
	want := api.Tenant{Name: "t", Quota: 20, Next: 2, Sets: []api.Set{{Snaps: []api.Snap{{Name: "a", Guid: 1, Tags: []string{"h"}}}}}}
	if err != api.OK || !one(y, want) {
		t.Errorf("Hold a: %d and %s", err, brief(y))
	}
	if z, err := snaps.Destroy(y, "", "a"); err != api.ErrHeld || !one(z, api.Tenant{}) {
		t.Errorf("Destroy a: %d and %s", err, brief(z))
	}
	if len(x.Sets[0].Snaps[0].Tags) != 0 {
		t.Error("Hold a: the tenant ahead was changed")
	}
}

// TestTheTenants: they are what the other tests take them for.
func TestTheTenants(t *testing.T) {
	for what, do := range goodEdits() {
		if tree.Check(onto(full(), do)) != api.OK {
			t.Errorf("%s: a tenant that may not be", what)
		}
	}
	for what, do := range badEdits() {
		if tree.Check(onto(full(), do)) != api.ErrState {
			t.Errorf("%s: a tenant that may be", what)
		}
	}
	if tree.Check(row()) != api.OK || tree.Check(alone(16)) != api.OK {
		t.Error("row or alone may not be")
	}
	r := rand.New(rand.NewSource(181))
	for range 300 {
		if x := someTenant(r); tree.Check(x) != api.OK {
			t.Fatalf("a tenant by chance that may not be: %s", brief(x))
		}
	}
}

// with: full, with these tags at the snapshot of that place of the set of that
// place.
func with(set, place int, l string) api.Tenant {
	x := full()
	x.Sets[set].Snaps[place].Tags = tags(l)
	return x
}

// TestHold: the tag goes in among those that are there; all else stays.
func TestHold(t *testing.T) {
	for _, k := range []struct {
		n          snapOf
		set, place int
		tag, want  string
	}{
		{snapOf{"", "monday"}, 0, 0, "keep", "keep"}, // the root's, without a tag
		{snapOf{"", "early"}, 0, 1, "zz", "keep zz"},
		{snapOf{"", "early"}, 0, 1, "a", "a keep"},
		{snapOf{"alpha", "monday"}, 1, 0, "aa", "aa bb dd ff"}, // ahead of three
		{snapOf{"alpha", "monday"}, 1, 0, "cc", "bb cc dd ff"}, // between them
		{snapOf{"alpha", "monday"}, 1, 0, "ee", "bb dd ee ff"},
		{snapOf{"alpha", "monday"}, 1, 0, "gg", "bb dd ff gg"}, // behind them
		{snapOf{"alpha", "monday"}, 1, 0, "b", "b bb dd ff"},   // tags that begin alike
		{snapOf{"alpha", "monday"}, 1, 0, "bbb", "bb bbb dd ff"},
		{snapOf{"alpha", "monday"}, 1, 0, "bb-", "bb bb- dd ff"},
		{snapOf{"alpha", "monday"}, 1, 0, "d_", "bb d_ dd ff"},
		{snapOf{"alpha", "monday"}, 1, 0, "-", "- bb dd ff"}, // the lowest and the greatest octets
		{snapOf{"alpha", "monday"}, 1, 0, "0", "0 bb dd ff"},
		{snapOf{"alpha", "monday"}, 1, 0, "_", "_ bb dd ff"},
		{snapOf{"alpha", "monday"}, 1, 0, "zzzzzzzzzzzzzzzz", "bb dd ff zzzzzzzzzzzzzzzz"},
		{snapOf{"alpha", "noon"}, 1, 1, "bb", "bb"}, // what just others have
		{snapOf{"alpha", "noon"}, 1, 1, "noon", "noon"},
		{snapOf{"alpha", "noon"}, 1, 1, "alpha", "alpha"},
		{snapOf{"alpha-1", "monday"}, 2, 0, "monday", "monday x-ray"},
		{snapOf{"alpha/one/two", "zulu"}, 4, 0, "keep-1", "keep keep-1 keep-2"},
		{snapOf{"alpha/one/two", "mike"}, 4, 1, "keep", "keep"}, // between two with tags
		{snapOf{"alpha/one/two", "abel"}, 4, 2, "a", "a aa"},
		{snapOf{"beta", "old"}, 5, 0, "keep", "keep"}, // it has a clone
		{snapOf{"beta", "new"}, 5, 1, longestName, longestName},
		{snapOf{"staged", "seen"}, 8, 0, longestName[1:], longestName[1:] + " " + longestName}, // a stage into its set
	} {
		mustBe(t, "full", full(), hold(k.n.Path, k.n.Name, k.tag), with(k.set, k.place, k.want))
		mustRefuse(t, "a second time", with(k.set, k.place, k.want), hold(k.n.Path, k.n.Name, k.tag), api.ErrTwice)
	}
}

// TestRelease: the tag goes, the others stay, and so does all else.
func TestRelease(t *testing.T) {
	for _, k := range []struct {
		n          snapOf
		set, place int
		tag, want  string
	}{
		{snapOf{"", "early"}, 0, 1, "keep", ""},
		{snapOf{"alpha", "monday"}, 1, 0, "bb", "dd ff"},
		{snapOf{"alpha", "monday"}, 1, 0, "dd", "bb ff"},
		{snapOf{"alpha", "monday"}, 1, 0, "ff", "bb dd"},
		{snapOf{"alpha", "friday"}, 1, 2, "bb", "dd ff hh"},
		{snapOf{"alpha", "friday"}, 1, 2, "dd", "bb ff hh"},
		{snapOf{"alpha", "friday"}, 1, 2, "ff", "bb dd hh"},
		{snapOf{"alpha", "friday"}, 1, 2, "hh", "bb dd ff"},
		{snapOf{"alpha-1", "monday"}, 2, 0, "x-ray", ""},
		{snapOf{"alpha/one/two", "zulu"}, 4, 0, "keep", "keep-2"},
		{snapOf{"alpha/one/two", "zulu"}, 4, 0, "keep-2", "keep"},
		{snapOf{"alpha/one/two", "abel"}, 4, 2, "aa", ""},
		{snapOf{"staged", "seen"}, 8, 0, longestName, ""},
	} {
		mustBe(t, "full", full(), release(k.n.Path, k.n.Name, k.tag), with(k.set, k.place, k.want))
		mustRefuse(t, "a second time", with(k.set, k.place, k.want), release(k.n.Path, k.n.Name, k.tag), api.ErrNone)
	}
}

// TestEachTag: all lists of up to four of five tags, and each tag that is one of
// them, ahead of them, between two or behind them.
func TestEachTag(t *testing.T) {
	five := []string{"b", "d", "f", "h", "j"}
	for choice := range 1 << 5 {
		var l []string
		for i, tag := range five {
			if choice>>i&1 == 1 {
				l = append(l, tag)
			}
		}
		if len(l) > 4 {
			continue
		}
		for _, tag := range append(five, "a", "c", "e", "g", "i", "k") {
			for place := range 3 {
				x, what, name := tagged(place, l), fmt.Sprint(l), fmt.Sprintf("n%d", place+1)
				is := slices.Index(l, tag)
				if is >= 0 {
					mustRefuse(t, what, x, hold("a", name, tag), api.ErrTwice)
					mustBe(t, what, x, release("a", name, tag), tagged(place, slices.Concat(l[:is], l[is+1:])))
					continue
				}
				mustRefuse(t, what, x, release("a", name, tag), api.ErrNone)
				if len(l) == 4 {
					mustRefuse(t, what, x, hold("a", name, tag), api.ErrCount)
					continue
				}
				more := append(slices.Clone(l), tag)
				slices.Sort(more)
				mustBe(t, what, x, hold("a", name, tag), tagged(place, more))
			}
		}
	}
}

// TestMany: up to 4 tags of each snapshot, and not one more, whatever the others
// have; and back to none.
func TestMany(t *testing.T) {
	x := alone(16)
	for i := range 16 {
		name := fmt.Sprintf("n%d", i+1)
		for j, tag := range tags("dd aa cc bb") {
			got := mustAnswer(t, "one by one", x, hold("", name, tag))
			if got.Err != api.OK || len(got.Tenant.Sets[0].Snaps[i].Tags) != j+1 {
				t.Fatalf("tag %d of %s: %s", j+1, name, brief(got))
			}
			x = got.Tenant
		}
		mustRefuse(t, "4 tags", x, hold("", name, "ee"), api.ErrCount)
		mustRefuse(t, "4 tags", x, hold("", name, "a"), api.ErrCount)
		mustRefuse(t, "4 tags, and it is there", x, hold("", name, "cc"), api.ErrTwice)
		mustRefuse(t, "4 tags, another", x, release("", name, "ee"), api.ErrNone)
	}
	want := alone(16)
	allTags(&want, "aa bb cc dd")
	if !one(x, want) {
		t.Errorf("4 tags of 16: %s", brief(x))
	}
	for i := range 16 {
		name := fmt.Sprintf("n%d", 16-i)
		for j, tag := range tags("bb dd aa cc") {
			got := mustAnswer(t, "one by one", x, release("", name, tag))
			if got.Err != api.OK || len(got.Tenant.Sets[0].Snaps[15-i].Tags) != 3-j {
				t.Fatalf("without tag %d of %s: %s", j+1, name, brief(got))
			}
			x = got.Tenant
		}
		mustRefuse(t, "no tag", x, release("", name, "aa"), api.ErrNone)
	}
	if !one(x, alone(16)) {
		t.Errorf("no tag of 16: %s", brief(x))
	}
}

func TestErrors(t *testing.T) {
	for _, path := range noSets() {
		mustRefuse(t, "no such set", full(), hold(path, "monday", "new"), api.ErrNone)
		mustRefuse(t, "no such set", full(), release(path, "monday", "bb"), api.ErrNone)
	}
	for _, n := range noSnaps() {
		mustRefuse(t, "no such snapshot", full(), hold(n.Path, n.Name, "new"), api.ErrNone)
		for _, tag := range tags("bb keep x-ray aa") {
			mustRefuse(t, "no such snapshot", full(), release(n.Path, n.Name, tag), api.ErrNone)
		}
	}
	for _, path := range noPaths() {
		mustRefuse(t, "no path", full(), hold(path, "monday", "new"), api.ErrName)
		mustRefuse(t, "no path", full(), release(path, "monday", "bb"), api.ErrName)
	}
	for _, s := range noSnapNames() {
		mustRefuse(t, "no name", full(), hold("alpha", s, "new"), api.ErrName)
		mustRefuse(t, "no name", full(), release("alpha", s, "bb"), api.ErrName)
		mustRefuse(t, "no tag's name", full(), hold("alpha", "monday", s), api.ErrName)
		mustRefuse(t, "no tag's name", full(), release("alpha", "monday", s), api.ErrName)
	}
	for _, n := range snapsAll(full()) {
		mustRefuse(t, "it has not", full(), release(n.Path, n.Name, "new"), api.ErrNone)
		mustRefuse(t, "its own name", full(), release(n.Path, n.Name, n.Name), api.ErrNone)
	}
	for _, k := range []struct {
		n   snapOf
		tag string
	}{ // what just another snapshot has
		{snapOf{"", "monday"}, "keep"}, {snapOf{"", "early"}, "bb"}, {snapOf{"alpha", "monday"}, "hh"}, {snapOf{"alpha", "noon"}, "dd"},
		{snapOf{"alpha-1", "monday"}, "bb"}, {snapOf{"alpha/one/two", "mike"}, "keep"}, {snapOf{"alpha/one/two", "abel"}, "keep"}, {snapOf{"beta", "old"}, "aa"},
		{snapOf{"alpha/one/two", "zulu"}, "keep-"}, {snapOf{"alpha/one/two", "zulu"}, "kee"}, {snapOf{"staged", "seen"}, longestName[1:]},
	} {
		mustRefuse(t, "it has not", full(), release(k.n.Path, k.n.Name, k.tag), api.ErrNone)
	}
	mustRefuse(t, "no snapshots at all", alone(0), hold("", "n1", "a"), api.ErrNone)
	mustRefuse(t, "no snapshots at all", alone(0), release("", "n1", "a"), api.ErrNone)
}

// TestNothingIsSettled: tags are not charged for; of a tenant above its Quota
// they come and go, too.
func TestNothingIsSettled(t *testing.T) {
	for _, quota := range []int{0, 1, maxAmount} {
		x, y := full(), with(1, 0, "bb cc dd ff")
		x.Quota, y.Quota = quota, quota
		mustBe(t, fmt.Sprintf("Quota %d", quota), x, hold("alpha", "monday", "cc"), y)
		mustBe(t, fmt.Sprintf("Quota %d", quota), y, release("alpha", "monday", "cc"), x)
	}
}

// TestHeld: whether the snapshot is there, with a tag.
func TestHeld(t *testing.T) {
	for n, want := range map[snapOf]bool{
		{"", "monday"}: false, {"", "early"}: true,
		{"alpha", "monday"}: true, {"alpha", "noon"}: false, {"alpha", "friday"}: true, {"alpha-1", "monday"}: true,
		{"alpha/one/two", "zulu"}: true, {"alpha/one/two", "mike"}: false, {"alpha/one/two", "abel"}: true,
		{"beta", "old"}: false, {"beta", "new"}: false, {"staged", "seen"}: true,
	} {
		mustTell(t, "full", full(), held(n.Path, n.Name), want)
		mustTell(t, "no tags", onto(full(), noTags), held(n.Path, n.Name), false)
		mustTell(t, "tags of all", onto(full(), func(x *api.Tenant) { allTags(x, "keep") }), held(n.Path, n.Name), true)
	}
	for _, n := range noSnaps() {
		mustTell(t, "no such snapshot", full(), held(n.Path, n.Name), false)
	}
	for _, name := range append(noSnapNames(), "monday", "early", "keep") {
		for _, path := range append(noSets(), noPaths()...) {
			mustTell(t, "no such set", full(), held(path, name), false)
		}
	}
	for _, name := range noSnapNames() {
		for _, path := range pathsOf(full()) {
			mustTell(t, "no name", full(), held(path, name), false)
		}
	}
	for place := range 3 {
		for n := range 5 {
			x := tagged(place, tags("a b c d")[:n])
			for other, name := range tags("n1 n2 n3") {
				mustTell(t, fmt.Sprintf("%d tags of n%d", n, place+1), x, held("a", name), n > 0 && other == place)
				for _, path := range tags("a- aa b a/b") {
					mustTell(t, "another set's", x, held(path, name), false)
				}
			}
		}
	}
}

// TestAll: in the order of the sets, in each in the order of its snapshots.
func TestAll(t *testing.T) {
	mustList(t, "full", full(), "@early", "alpha@monday", "alpha@friday", "alpha-1@monday", "alpha/one/two@zulu", "alpha/one/two@abel", "staged@seen")
	mustList(t, "no tags", onto(full(), noTags))
	mustList(t, "alone", alone(0))
	mustList(t, "alone, no tags", alone(16))
	var each []string
	for _, n := range snapsAll(full()) {
		each = append(each, n.Path+"@"+n.Name)
	}
	mustList(t, "tags of all", onto(full(), func(x *api.Tenant) { allTags(x, "keep x-ray") }), each...)
	x := alone(0)
	x.Sets[0].Snaps = heldSnaps(16)
	mustList(t, "16 with tags", x, "@n1", "@n2", "@n3", "@n4", "@n5", "@n6", "@n7", "@n8", "@n9", "@n10", "@n11", "@n12", "@n13", "@n14", "@n15", "@n16")
	for choice := range 1 << 6 { // each of six snapshots of two sets
		x, want := row(), []string(nil)
		for i := range 6 {
			set := 1 + 2*(i/3)
			n := &x.Sets[set].Snaps[2-i%3]
			n.Name = fmt.Sprintf("n%d", i%3)
			if choice>>i&1 == 1 {
				n.Tags = tags("keep a")[i%2:]
			}
		}
		for _, set := range []int{1, 3} {
			for _, n := range x.Sets[set].Snaps {
				if len(n.Tags) > 0 {
					want = append(want, x.Sets[set].Path+"@"+n.Name)
				}
			}
		}
		mustList(t, fmt.Sprintf("choice %d", choice), x, want...)
	}
}

// TestAnyTenantIsLookedAt: Held and All ask nothing of it; of several sets of
// one path, and snapshots of one name, Held tells of the first.
func TestAnyTenantIsLookedAt(t *testing.T) {
	mustList(t, "zero", api.Tenant{})
	mustTell(t, "zero", api.Tenant{}, held("", ""), false)
	x := api.Tenant{Sets: []api.Set{
		{Path: "B@", Snaps: []api.Snap{{Name: "", Tags: []string{""}}, {Name: "N@", Tags: tags("b a a a a a")}, {Name: "twice"}, {Name: "twice", Tags: tags("a")}}},
		{Path: "B@", Snaps: []api.Snap{{Name: "twice", Tags: tags("a")}, {Name: "else", Tags: tags("a")}}},
		{Path: "a", Snaps: []api.Snap{{Name: "twice", Tags: tags("a")}, {Name: "twice"}}},
		{Path: "a", Snaps: []api.Snap{{Name: "twice"}}},
		{Path: "", Snaps: []api.Snap{{Name: "", Tags: tags("a")}}},
	}}
	want := []string{"B@@", "B@@N@", "B@@twice", "B@@twice", "B@@else", "a@twice", "@"}
	if got := mustAnswer(t, "none that may be", x, all()); !slices.Equal(got.List, want) {
		t.Errorf("All: %q", got.List)
	}
	for n, want := range map[snapOf]bool{
		{"B@", ""}: true, {"B@", "N@"}: true, {"B@", "twice"}: false, {"B@", "else"}: false, {"a", "twice"}: true, {"", ""}: true, {"", "twice"}: false,
	} {
		mustTell(t, "none that may be", x, held(n.Path, n.Name), want)
	}
}

// asks: each call, as it is answered of full without an error, and with each
// error that its arguments can have.
func asks() []ask {
	return []ask{
		hold("alpha", "monday", "cc"), hold("", "monday", "keep"), hold("alpha/one/two", "mike", "zz"), hold("plain", "n3", "a"),
		hold("alpha", "monday", "dd"), hold("alpha", "friday", "cc"), hold("alpha", "friday", "dd"), hold("alpha", "seen", "a"), hold("plain", "monday", "a"), hold("new", "monday", "a"),
		hold("alpha/", "monday", "a"), hold("alpha", "Monday", "a"), hold("alpha", "monday", "A"), hold("", "", ""),
		release("alpha", "monday", "dd"), release("", "early", "keep"), release("staged", "seen", longestName), release("plain", "n3", "keep"),
		release("alpha", "monday", "cc"), release("alpha", "noon", "bb"), release("alpha", "seen", "bb"), release("plain", "monday", "bb"), release("new", "monday", "bb"),
		release("//", "monday", "bb"), release("alpha", "@monday", "bb"), release("alpha", "monday", "bb "), release("", "", ""),
	}
}

// looks: each call that changes nothing.
func looks() []ask {
	return []ask{
		all(), held("alpha", "monday"), held("alpha", "noon"), held("", "early"), held("", "monday"), held("staged", "seen"), held("plain", "n1"), held("new", "monday"), held("alpha", ""), held("/", "monday"),
	}
}

// TestStateGoesAhead: of a tenant that may not be, whatever else is wrong.
func TestStateGoesAhead(t *testing.T) {
	for what, do := range badEdits() {
		for _, a := range asks() {
			mustRefuse(t, what, onto(full(), do), a, api.ErrState)
		}
	}
	for _, a := range asks() {
		mustRefuse(t, "zero", api.Tenant{}, a, api.ErrState)
		mustRefuse(t, "filled", filled[api.Tenant](2), a, api.ErrState)
	}
}

// TestNameGoesAhead: of what is no path, no name or no tag's, whatever else is
// wrong but the tenant.
func TestNameGoesAhead(t *testing.T) {
	for _, what := range []string{"nothing", "Quota 0", "no tags", "4 tags of all", "the root alone"} {
		x := onto(full(), goodEdits()[what])
		for _, path := range noPaths() {
			for _, a := range []ask{
				hold(path, "monday", "a"), hold(path, "friday", "aa"), hold(path, "none", "a"), hold(path, "A", ""),
				release(path, "monday", "aa"), release(path, "friday", "none"), release(path, "none", "a"), release(path, "", "A"),
			} {
				mustRefuse(t, what, x, a, api.ErrName)
			}
		}
		for _, s := range noSnapNames() {
			for _, a := range []ask{
				hold("alpha", s, "new"), hold("alpha", s, "aa"), hold("none", s, "new"), hold("none", s, s), hold("", "monday", s), hold("alpha", "friday", s), hold("alpha", "none", s), hold("none", "monday", s),
				release("alpha", s, "aa"), release("alpha", s, "new"), release("none", s, "aa"), release("", s, s), release("", "early", s), release("alpha", "friday", s), release("alpha", "none", s), release("none", "monday", s),
			} {
				mustRefuse(t, what, x, a, api.ErrName)
			}
		}
	}
}

// TestTwoErrors: of each two causes that can be there at once, the one that the
// chapter names first counts.
func TestTwoErrors(t *testing.T) {
	bad := onto(full(), badEdits()["17 entries"])
	for _, k := range []struct {
		what string
		x    api.Tenant
		a    ask
		want api.Errno
	}{
		{"it may not be, no path", bad, hold("A", "monday", "a"), api.ErrState},
		{"it may not be, no name", bad, release("alpha", "A", "bb"), api.ErrState},
		{"it may not be, no tag's name", bad, release("alpha", "monday", ""), api.ErrState},
		{"it may not be, no such snapshot", bad, hold("alpha", "none", "a"), api.ErrState},
		{"it may not be, it has the tag", bad, hold("alpha", "monday", "bb"), api.ErrState},
		{"it may not be, 4 tags", bad, hold("alpha", "friday", "a"), api.ErrState},
		{"it may not be, it has not", bad, release("alpha", "friday", "a"), api.ErrState},
		{"no path, no such set", full(), hold("none/", "monday", "a"), api.ErrName},
		{"no name, no such snapshot", full(), release("alpha", "none@", "a"), api.ErrName},
		{"no tag's name, no such set", full(), hold("none", "monday", "A"), api.ErrName},
		{"no tag's name, no such snapshot", full(), hold("alpha", "none", "A"), api.ErrName},
		{"no tag's name, 4 tags", full(), hold("alpha", "friday", "A"), api.ErrName},
		{"no tag's name, it has not", full(), release("alpha", "friday", "A"), api.ErrName},
		{"it has the tag, and 4", full(), hold("alpha", "friday", "bb"), api.ErrTwice},
		{"it has the tag, and 4", full(), hold("alpha", "friday", "hh"), api.ErrTwice},
		{"4 tags, another", full(), hold("alpha", "friday", "ii"), api.ErrCount},
		{"3 tags, and it has the tag", full(), hold("alpha", "monday", "ff"), api.ErrTwice},
	} {
		mustRefuse(t, k.what, k.x, k.a, k.want)
	}
}

// TestLongestNames: paths of four longest names, snapshots and tags of one.
func TestLongestNames(t *testing.T) {
	x := alone(0)
	for i := range 4 {
		x.Sets = append(x.Sets, api.Set{Path: longestPath[:17*i+16]})
	}
	x.Sets[4].Snaps = []api.Snap{{Name: longestName, Guid: maxAmount}}
	want := deep(x, 0)
	for i, c := range tags("a c b d") {
		want.Sets[4].Snaps[0].Tags = append(want.Sets[4].Snaps[0].Tags, strings.Repeat(c, 16))
		slices.Sort(want.Sets[4].Snaps[0].Tags)
		mustBe(t, fmt.Sprintf("tag %d", i+1), x, hold(longestPath, longestName, strings.Repeat(c, 16)), want)
		x = deep(want, 0)
		mustList(t, "the longest", x, longestPath+"@"+longestName)
	}
	mustRefuse(t, "a fifth", x, hold(longestPath, longestName, strings.Repeat("e", 16)), api.ErrCount)
	mustRefuse(t, "one octet too long", x, hold(longestPath, longestName, strings.Repeat("e", 17)), api.ErrName)
	mustRefuse(t, "one octet too long", x, release(longestPath, longestName, strings.Repeat("a", 17)), api.ErrName)
	want.Sets[4].Snaps[0].Tags = want.Sets[4].Snaps[0].Tags[1:]
	mustBe(t, "the longest", x, release(longestPath, longestName, strings.Repeat("a", 16)), want)
}
