package snaps_test

import (
	"fmt"
	"slices"
	"strings"
	"testing"

	"godown/api"
	"godown/usage"
)

// P17.1: Rollback, Clone and Rename

// TestRollback: the set alone becomes what its last snapshot is; that one stays,
// with its tags.
func TestRollback(t *testing.T) {
	for _, k := range []struct {
		n     snapOf
		place int
		body  []api.Block
		own   []api.Prop
	}{
		{snapOf{"", "monday"}, 0, nil, own("atime=off")},
		{snapOf{"alpha", "friday"}, 1, content(3), own("a=", "b=~ ~")},
		{snapOf{"alpha/one/two", "tuesday"}, 3, content(5), nil},
		{snapOf{"beta", "new"}, 4, content(0), nil},
		{snapOf{"beta-2", "seen"}, 5, nil, nil},
	} {
		want := with(k.place, func(s *api.Set) { s.Body, s.Own = k.body, k.own })
		mustBe(t, "full", full(), rollback(k.n.Path, k.n.Name), want)
		mustBe(t, "a second time", want, rollback(k.n.Path, k.n.Name), want)
	}
	for _, n := range []snapOf{{"alpha", "monday"}, {"alpha", "noon"}, {"alpha/one/two", "monday"}, {"beta", "old"}} {
		mustRefuse(t, "not the last one", full(), rollback(n.Path, n.Name), api.ErrBusy)
	}
}

// TestRollbackEach: of so many, to the last one alone.
func TestRollbackEach(t *testing.T) {
	for n := 1; n <= 16; n++ {
		x := alone(999)
		x.Sets = setsAt("", "a", "b")
		for i := range x.Sets {
			x.Sets[i].Snaps = snapsOf(n)
			x.Sets[i].Body, x.Sets[i].Own = span(40+i, 3), own("now=yes")
			for j := range n {
				x.Sets[i].Snaps[j].Body, x.Sets[i].Snaps[j].Own = span(20*i+j, j%3), ownOf(j/2)
			}
		}
		for place := range n {
			name := fmt.Sprintf("n%d", place+1)
			if place < n-1 {
				mustRefuse(t, "not the last one", x, rollback("a", name), api.ErrBusy)
				continue
			}
			want := deep(x, 0)
			want.Sets[1].Body, want.Sets[1].Own = span(20+place, place%3), ownOf(place/2)
			mustBe(t, fmt.Sprintf("%d snapshots", n), x, rollback("a", name), want)
		}
		mustRefuse(t, "one that was not made", x, rollback("a", fmt.Sprintf("n%d", n+1)), api.ErrNone)
	}
}

// TestRollbackLast: the last one is told by its place, not by its name, and what
// hangs on it is no cause.
func TestRollbackLast(t *testing.T) {
	x := begins()
	x.Sets[1].Snaps = []api.Snap{{Name: "z", Guid: 3}, {Name: "b", Guid: 7}, {Name: "a", Guid: 9, Body: content(1), Tags: []string{"keep"}}}
	x.Sets[4].Origin = "a@a"
	x.Stages = []api.Stage{stageInto("a")}
	want := deep(x, 0)
	want.Sets[1].Body = content(1)
	mustBe(t, "a tag, a clone, a stage", x, rollback("a", "a"), want)
	mustRefuse(t, "the one ahead", x, rollback("a", "b"), api.ErrBusy)
	mustRefuse(t, "the greatest name", x, rollback("a", "z"), api.ErrBusy)
}

// TestRollbackCharge: what the set has behind it counts, not what it had.
func TestRollbackCharge(t *testing.T) {
	for n, charge := range map[snapOf]int{
		{"", "monday"}: -2, {"alpha", "friday"}: -4, {"alpha/one/two", "tuesday"}: -1, {"beta", "new"}: 1, {"beta-2", "seen"}: -1,
	} {
		for spare := -3; spare <= 3; spare++ {
			x := full()
			x.Quota = fullCharge + charge + spare
			got := mustAnswer(t, fmt.Sprintf("%d to spare", spare), x, rollback(n.Path, n.Name))
			if spare < 0 && got.Err != api.ErrQuota || spare >= 0 && (got.Err != api.OK || !usage.Fits(got.Tenant)) {
				t.Errorf("%v, %d to spare: %d", n, spare, got.Err)
			}
		}
	}
	// What changes nothing is settled, too.
	x := alone(1)
	x.Sets[0].Snaps = snapsOf(1)
	mustRefuse(t, "a quota that it is above", x, rollback("", "n1"), api.ErrQuota)
	x.Quota = 2
	mustBe(t, "a quota that it fits just", x, rollback("", "n1"), x)
	x.Sets[0].Snaps[0].Body, x.Sets[0].Own, x.Quota = span(0, 1024), ownOf(8), 2050
	want := deep(x, 0)
	want.Sets[0].Body, want.Sets[0].Own = span(0, 1024), nil
	mustBe(t, "a full Body", x, rollback("", "n1"), want)
	x.Quota = 2049
	mustRefuse(t, "a full Body, one too much", x, rollback("", "n1"), api.ErrQuota)
}

func TestRollbackErrors(t *testing.T) {
	for _, path := range noSets() {
		mustRefuse(t, "no such set", full(), rollback(path, "monday"), api.ErrNone)
	}
	for _, n := range noSnaps() {
		mustRefuse(t, "no such snapshot", full(), rollback(n.Path, n.Name), api.ErrNone)
	}
	for _, path := range noPaths() {
		mustRefuse(t, "no path", full(), rollback(path, "friday"), api.ErrName)
	}
	for _, name := range noSnapNames() {
		mustRefuse(t, "no name", full(), rollback("alpha", name), api.ErrName)
	}
	mustRefuse(t, "alone", alone(9), rollback("", "a"), api.ErrNone)
}

// TestClone: a set of the snapshot's Body and Own, without snapshots, at its
// place among the others.
func TestClone(t *testing.T) {
	for _, k := range []struct {
		n     snapOf
		place int
		want  api.Set
	}{
		{snapOf{"", "monday"}, 1, api.Set{Path: "a", Origin: "@monday", Own: own("atime=off")}},
		{snapOf{"alpha", "monday"}, 1, api.Set{Path: "a", Origin: "alpha@monday", Body: content(1, 2, 3)}},
		{snapOf{"alpha", "noon"}, 2, api.Set{Path: "alpha-", Origin: "alpha@noon", Body: content(2), Own: own("x=noon")}}, // a tag
		{snapOf{"alpha", "noon"}, 3, api.Set{Path: "alpha/one-", Origin: "alpha@noon", Body: content(2), Own: own("x=noon")}},
		{snapOf{"alpha", "friday"}, 2, api.Set{Path: "alpha/a", Origin: "alpha@friday", Body: content(3), Own: own("a=", "b=~ ~")}}, // beneath itself
		{snapOf{"alpha", "friday"}, 10, api.Set{Path: "zeta/a", Origin: "alpha@friday", Body: content(3), Own: own("a=", "b=~ ~")}}, // beneath another clone
		{snapOf{"alpha/one/two", "monday"}, 4, api.Set{Path: "alpha/one/two/new", Origin: "alpha/one/two@monday", Body: content(4), Own: own("z=first")}},
		{snapOf{"alpha/one/two", "tuesday"}, 10, api.Set{Path: "zz", Origin: "alpha/one/two@tuesday", Body: content(5)}},
		{snapOf{"beta", "old"}, 5, api.Set{Path: "beta-1", Origin: "beta@old", Body: content(8)}},
		{snapOf{"beta", "new"}, 6, api.Set{Path: "beta-3", Origin: "beta@new", Body: content(0)}}, // tags
		{snapOf{"beta-2", "seen"}, 6, api.Set{Path: "beta/b", Origin: "beta-2@seen"}},
		{snapOf{"beta-2", "seen"}, 4, api.Set{Path: longestName, Origin: "beta-2@seen"}}, // all of them b, ahead of beta
	} {
		want := full()
		want.Sets = slices.Insert(want.Sets, k.place, k.want)
		mustBe(t, "full", full(), clone(k.n.Path, k.n.Name, k.want.Path), want)
	}
	x := alone(99)
	x.Sets = setsAt("", longestName, longestPath[:33], longestPath[:50])
	x.Sets[3].Snaps = []api.Snap{{Name: longestName, Guid: 1, Body: span(0, 9), Own: ownOf(8)}}
	want := deep(x, 0)
	want.Sets = append(want.Sets, api.Set{Path: longestPath, Origin: longestPath[:50] + "@" + longestName, Body: span(0, 9), Own: ownOf(8)})
	mustBe(t, "a path of four longest names", x, clone(longestPath[:50], longestName, longestPath), want)
}

func TestCloneErrors(t *testing.T) {
	for _, n := range snapsAll(full()) {
		for _, to := range pathsOf(full()) { // the root and its own set among them
			mustRefuse(t, "it is there", full(), clone(n.Path, n.Name, to), api.ErrTwice)
		}
		for _, to := range []string{"a/b", "gone/away", "alpha/two/one", "alpha/one/two0/three", "plain/x/y", "one/two", "alph/one", "alpha-/one", "beta-2/x/y/z", "monday/a"} {
			mustRefuse(t, "its parent is not there", full(), clone(n.Path, n.Name, to), api.ErrNone)
		}
		mustRefuse(t, "a fifth name", full(), clone(n.Path, n.Name, "alpha/one/two/three/four"), api.ErrName)
	}
	for _, path := range noSets() {
		mustRefuse(t, "no such set", full(), clone(path, "monday", "new"), api.ErrNone)
	}
	for _, n := range noSnaps() {
		mustRefuse(t, "no such snapshot", full(), clone(n.Path, n.Name, "new"), api.ErrNone)
	}
	for _, path := range noPaths() {
		mustRefuse(t, "no path", full(), clone(path, "monday", "new"), api.ErrName)
		mustRefuse(t, "to no path", full(), clone("alpha", "monday", path), api.ErrName)
	}
	for _, name := range noSnapNames() {
		mustRefuse(t, "no name", full(), clone("alpha", name, "new"), api.ErrName)
	}
	x := alone(9)
	x.Sets[0].Snaps = snapsOf(1)
	mustRefuse(t, "alone, onto the root", x, clone("", "n1", ""), api.ErrTwice)
	mustRefuse(t, "alone", alone(9), clone("", "n1", "a"), api.ErrNone)
}

// TestCloneMany: up to 32 sets, and not one more.
func TestCloneMany(t *testing.T) {
	for n := 1; n < 32; n++ {
		want := flat(n)
		want.Sets = append(want.Sets, api.Set{Path: "z", Origin: "@n1"})
		mustBe(t, fmt.Sprintf("%d sets", n), flat(n), clone("", "n1", "z"), want)
	}
	for _, to := range []string{"z", "a", "s00/z", "s30/a"} {
		mustRefuse(t, "32 sets", flat(32), clone("", "n1", to), api.ErrCount)
	}
	x := alone(33)
	x.Sets[0].Snaps = snapsOf(1)
	for n := 1; n < 32; n++ {
		got := mustAnswer(t, "one by one", x, clone("", "n1", fmt.Sprintf("c%d", n)))
		if got.Err != api.OK || len(got.Tenant.Sets) != n+1 {
			t.Fatalf("clone %d: %d", n, got.Err)
		}
		x = got.Tenant
	}
	mustRefuse(t, "31 clones", x, clone("", "n1", "c32"), api.ErrCount)
	mustRefuse(t, "31 clones", x, destroy("", "n1"), api.ErrBusy)
	want := deep(x, 0)
	want.Sets[0].Snaps[0].Name = "new"
	for i := 1; i < 32; i++ {
		want.Sets[i].Origin = "@new"
	}
	mustBe(t, "31 clones", x, rename("", "n1", "new"), want)
}

// TestCloneCharge: a clone is charged for 1 and its blocks.
func TestCloneCharge(t *testing.T) {
	for n, charge := range map[snapOf]int{
		{"", "monday"}: 1, {"alpha", "monday"}: 4, {"alpha", "noon"}: 2, {"alpha", "friday"}: 2, {"beta", "old"}: 2, {"beta-2", "seen"}: 1,
	} {
		for spare := -3; spare <= 3; spare++ {
			x := full()
			x.Quota = fullCharge + charge + spare
			got := mustAnswer(t, fmt.Sprintf("%d to spare", spare), x, clone(n.Path, n.Name, "new"))
			if spare < 0 && got.Err != api.ErrQuota || spare >= 0 && (got.Err != api.OK || !usage.Fits(got.Tenant)) {
				t.Errorf("%v, %d to spare: %d", n, spare, got.Err)
			}
		}
	}
	for _, quota := range []int{0, 1, fullCharge - 1, fullCharge} {
		mustRefuse(t, "no room", onto(full(), func(x *api.Tenant) { x.Quota = quota }), clone("", "monday", "new"), api.ErrQuota)
	}
}

// TestRename: its Name and the Origins of its clones alone.
func TestRename(t *testing.T) {
	for _, k := range []struct {
		n      snapOf
		set    int
		snap   int
		clones []int
	}{
		{snapOf{"", "monday"}, 0, 0, []int{2}},
		{snapOf{"alpha", "monday"}, 1, 0, nil},
		{snapOf{"alpha", "noon"}, 1, 1, nil},
		{snapOf{"alpha", "friday"}, 1, 2, []int{3, 9}},
		{snapOf{"alpha/one/two", "monday"}, 3, 0, nil},
		{snapOf{"alpha/one/two", "tuesday"}, 3, 1, nil},
		{snapOf{"beta", "old"}, 4, 0, nil},
		{snapOf{"beta", "new"}, 4, 1, nil},
		{snapOf{"beta-2", "seen"}, 5, 0, []int{6}},
	} {
		for _, to := range []string{"a", "0", "zz", "later", longestName, "keep", "x", "mondays", "monda", "alpha"} {
			want := full()
			want.Sets[k.set].Snaps[k.snap].Name = to
			for _, i := range k.clones {
				want.Sets[i].Origin = k.n.Path + "@" + to
			}
			mustBe(t, "full", full(), rename(k.n.Path, k.n.Name, to), want)
			mustBe(t, "quota 0", onto(full(), func(x *api.Tenant) { x.Quota = 0 }), rename(k.n.Path, k.n.Name, to), onto(want, func(x *api.Tenant) { x.Quota = 0 }))
			mustBe(t, "Next MaxAmount", onto(full(), func(x *api.Tenant) { x.Next = maxAmount }), rename(k.n.Path, k.n.Name, to), onto(want, func(x *api.Tenant) { x.Next = maxAmount }))
			mustBe(t, "and back", want, rename(k.n.Path, to, k.n.Name), full())
		}
	}
	// A name that just another set's snapshot has.
	want := with(4, func(s *api.Set) { s.Snaps[0].Name = "monday" })
	mustBe(t, "another's name", full(), rename("beta", "old", "monday"), want)
}

// TestRenameClones: of all that its snapshots and others' have, those of the one
// follow.
func TestRenameClones(t *testing.T) {
	for what, k := range map[string][2][]string{ // Origins of the root, a, a-, aa, b, c, and what they become
		"none":             {{"", "", "", "", "", ""}, {"", "", "", "", "", ""}},
		"each of a's":      {{"a@n1", "", "a@n2", "a@n3", "a@n2", ""}, {"a@n1", "", "a@new", "a@n3", "a@new", ""}},
		"all":              {{"a@n2", "", "a@n2", "a@n2", "a@n2", "a@n2"}, {"a@new", "", "a@new", "a@new", "a@new", "a@new"}},
		"of others":        {{"aa@n2", "a-@n2", "@n2", "b@n2", "c@n2", "@n2"}, {"aa@n2", "a-@n2", "@n2", "b@n2", "c@n2", "@n2"}},
		"the root's first": {{"a@n2", "@n2", "", "", "", "@n2"}, {"a@new", "@n2", "", "", "", "@n2"}},
		"the last":         {{"", "", "", "", "", "a@n2"}, {"", "", "", "", "", "a@new"}},
	} {
		x, want := begins(), begins()
		for i := range x.Sets {
			x.Sets[i].Origin, want.Sets[i].Origin = k[0][i], k[1][i]
		}
		want.Sets[1].Snaps[1].Name = "new"
		mustBe(t, what, x, rename("a", "n2", "new"), want)
	}
	// The root's snapshot has no path ahead of its @.
	x := begins()
	x.Sets[1].Origin, x.Sets[4].Origin = "@n2", "@n2"
	want := deep(x, 0)
	want.Sets[0].Snaps[1].Name, want.Sets[1].Origin, want.Sets[4].Origin = "n", "@n", "@n"
	mustBe(t, "the root's", x, rename("", "n2", "n"), want)
}

func TestRenameErrors(t *testing.T) {
	for _, n := range snapsAll(full()) {
		for _, to := range snapsAll(full()) { // itself among them
			if n.Path == to.Path {
				mustRefuse(t, "it is there", full(), rename(n.Path, n.Name, to.Name), api.ErrTwice)
			}
		}
		for _, to := range noSnapNames() {
			mustRefuse(t, "to no name", full(), rename(n.Path, n.Name, to), api.ErrName)
		}
	}
	for _, path := range noSets() {
		mustRefuse(t, "no such set", full(), rename(path, "monday", "new"), api.ErrNone)
	}
	for _, n := range noSnaps() {
		mustRefuse(t, "no such snapshot", full(), rename(n.Path, n.Name, "other"), api.ErrNone)
	}
	for _, path := range noPaths() {
		mustRefuse(t, "no path", full(), rename(path, "monday", "new"), api.ErrName)
	}
	for _, name := range noSnapNames() {
		mustRefuse(t, "no name", full(), rename("alpha", name, "other"), api.ErrName)
	}
	for place := range 16 { // to is there, at each place
		x := alone(99)
		x.Sets[0].Snaps = snapsOf(16)
		mustRefuse(t, "16 snapshots", x, rename("", "n5", fmt.Sprintf("n%d", place+1)), api.ErrTwice)
		want := deep(x, 0)
		want.Sets[0].Snaps[place].Name = strings.Repeat("n", 16)
		mustBe(t, "16 snapshots", x, rename("", fmt.Sprintf("n%d", place+1), strings.Repeat("n", 16)), want)
	}
}
