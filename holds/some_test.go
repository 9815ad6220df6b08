package holds_test

import (
	"fmt"
	"math/rand"
	"slices"
	"strings"

	"godown/api"
)

// What the tests are made of: contents, properties and tenants.

// The limits, as the document writes them.
const (
	maxAmount = 1 << 40
	maxTags   = 4
)

var (
	longestName = strings.Repeat("b", 16)
	longestPath = strings.Repeat("/"+longestName, 4)[1:]
)

// text: the Data of a block, unlike those of other seeds.
func text(seed int) string {
	return fmt.Sprintf("data of %08d", seed)
}

// content: blocks at these indexes, each with Data of its own.
func content(indexes ...int) []api.Block {
	var out []api.Block
	for _, i := range indexes {
		out = append(out, api.Block{Index: i, Data: text(i)})
	}
	return out
}

// own: properties, each told as name=value.
func own(l ...string) []api.Prop {
	var out []api.Prop
	for _, s := range l {
		name, value, _ := strings.Cut(s, "=")
		out = append(out, api.Prop{Name: name, Value: value})
	}
	return out
}

// tags: a list of them, told as one text.
func tags(s string) []string {
	return strings.Fields(s)
}

// snapsOf: n snapshots, n1 the first, of Guids from 1 on.
func snapsOf(n int) []api.Snap {
	var out []api.Snap
	for i := range n {
		out = append(out, api.Snap{Name: fmt.Sprintf("n%d", i+1), Guid: i + 1})
	}
	return out
}

// stageInto: a stage of that content.
func stageInto(into string, body ...api.Block) api.Stage {
	begin := api.Record{Kind: 1, Name: "first", From: 3, Guid: 9, Own: own("copies=1")}
	return api.Stage{Into: into, Begin: begin, Body: body, At: 300, Next: 10, Sum: api.Sum{A: 1, B: 2, C: 3, D: 1 << 63}}
}

// full: a tenant that may be, with something of each kind: snapshots with no
// tag, with one and with more, ahead of others and last, of sets whose order is
// not that of their snapshots' paths (alpha-1 stands ahead of alpha/one, but
// alpha@monday behind alpha-1@monday).
func full() api.Tenant {
	return api.Tenant{
		Name: "tenant-1", Quota: 60, Next: 90,
		Sets: []api.Set{
			{Path: "", Body: content(0, 1023), Own: own("atime=on", "copies=1"), Snaps: []api.Snap{
				{Name: "monday", Guid: 1, Own: own("atime=off")},
				{Name: "early", Guid: 3, Body: content(0), Tags: tags("keep")},
			}},
			{Path: "alpha", Body: content(1, 2, 3), Own: own("atime=off", "copies=2"), Snaps: []api.Snap{
				{Name: "monday", Guid: 2, Body: content(1, 2), Tags: tags("bb dd ff")},
				{Name: "noon", Guid: 5, Body: content(2), Own: own("x=noon")},
				{Name: "friday", Guid: 7, Body: content(3), Tags: tags("bb dd ff hh"), Own: own("a=", "b=~ ~")},
			}},
			{Path: "alpha-1", Body: content(6), Snaps: []api.Snap{
				{Name: "monday", Guid: 4, Tags: tags("x-ray")},
			}},
			{Path: "alpha/one", Origin: "@monday", Own: own("copies=3")},
			{Path: "alpha/one/two", Origin: "alpha@friday", Body: content(4, 5), Own: own("z=last"), Snaps: []api.Snap{
				{Name: "zulu", Guid: 11, Body: content(4), Tags: tags("keep keep-2"), Own: own("z=first")},
				{Name: "mike", Guid: 12},
				{Name: "abel", Guid: 13, Body: content(5), Tags: tags("aa")},
			}},
			{Path: "beta", Snaps: []api.Snap{
				{Name: "old", Guid: 7, Body: content(8)},
				{Name: "new", Guid: 8, Body: content(0)},
			}},
			{Path: "gamma", Origin: "beta@old", Body: content(8)},
			{Path: "plain"},
			{Path: "staged", Body: content(512), Snaps: []api.Snap{
				{Name: "seen", Guid: 20, Tags: []string{longestName}},
			}},
			{Path: "zeta", Origin: "alpha@friday", Body: content(3)},
		},
		Grants: []api.Grant{
			{User: "alice", Path: "", Perms: 255}, {User: "alice", Path: "alpha/one/two", Perms: 3},
			{User: "bob", Path: "gone/away", Perms: 1}, {User: "bob", Path: "plain", Perms: 128},
		},
		Stages: []api.Stage{stageInto("alpha/one/two/new", content(5, 9)...), stageInto("staged", content(1)...)},
		Log:    []api.Entry{{User: "alice", Kind: 3, Path: "plain", Err: api.ErrHeld}, {Kind: 1}, {User: "bob", Kind: 2, Path: "gamma"}},
	}
}

// alone: a tenant with the root alone, and so many snapshots of it.
func alone(n int) api.Tenant {
	return api.Tenant{Name: "t", Quota: 99, Next: 50, Sets: []api.Set{{Snaps: snapsOf(n)}}}
}

// row: the root and the sets a, a-, aa and b, each with the snapshots n1, n2
// and n3.
func row() api.Tenant {
	x := alone(3)
	for _, path := range []string{"a", "a-", "aa", "b"} {
		x.Sets = append(x.Sets, api.Set{Path: path, Snaps: snapsOf(3)})
	}
	return x
}

// tagged: row, with these tags at a's snapshot of that place.
func tagged(place int, tags []string) api.Tenant {
	x := row()
	x.Sets[1].Snaps[place].Tags = tags
	return x
}

// onto: a tenant to which it is done.
func onto(x api.Tenant, do func(x *api.Tenant)) api.Tenant {
	do(&x)
	return x
}

// pathsOf: of all sets, in their order.
func pathsOf(x api.Tenant) []string {
	var out []string
	for _, s := range x.Sets {
		out = append(out, s.Path)
	}
	return out
}

// snapOf: a snapshot, and the set that it stands in.
type snapOf struct {
	Path, Name string
}

// snapsAll: of all sets, in their order.
func snapsAll(x api.Tenant) []snapOf {
	var out []snapOf
	for _, s := range x.Sets {
		for _, n := range s.Snaps {
			out = append(out, snapOf{s.Path, n.Name})
		}
	}
	return out
}

// noSets: paths of which full has no set.
func noSets() []string {
	return []string{"a", "alph", "alpha-", "alpha0", "alpha/two", "alpha/one/two/new", "gone/away", "gone", "monday", "keep", "one", "zeta-", longestName, longestPath}
}

// noSnaps: snapshots that full's sets do not have; others may.
func noSnaps() []snapOf {
	return []snapOf{
		{"", "noon"}, {"", "seen"}, {"", "keep"}, {"alpha", "early"}, {"alpha", "mon"}, {"alpha", "mondays"}, {"alpha", "bb"}, {"alpha-1", "friday"},
		{"alpha/one", "monday"}, {"alpha/one/two", "monday"}, {"beta", "monday"}, {"gamma", "old"}, {"plain", "monday"}, {"staged", "first"}, {"zeta", "friday"}, {"zeta", longestName},
	}
}

// noNames: and no path's part is.
func noNames() []string {
	return []string{"A", "bC", "b c", " b", "b ", "b@c", "@b", "b@", "b.c", "b:c", "é", "b\x00", "\xff", "b\n", "`", "{", "^", ",", strings.Repeat("b", 17), strings.Repeat("b", 1000)}
}

// noSnapNames: what no snapshot and no tag is called: paths are no names, nor is
// no text.
func noSnapNames() []string {
	return append(noNames(), "", "/", "a/b", "monday/", "/monday", "alpha@monday", "@monday", "monday@", "MONDAY", "Keep", "bb dd")
}

// noPaths: what is no path.
func noPaths() []string {
	out := []string{"/", "//", "/alpha", "alpha/", "alpha//one", "/alpha/one", "a/b/c/d/e", "a/b/c/d/", "alpha/\x00", "ALPHA", "alpha@monday", longestPath + "b", longestPath + "/b"}
	for _, s := range noNames() {
		out = append(out, s, "alpha/"+s, s+"/alpha", "alpha/one/two/"+s)
	}
	return out
}

// badEdits: what makes full a tenant that may not be, one of each kind.
func badEdits() map[string]func(x *api.Tenant) {
	return map[string]func(x *api.Tenant){
		"no Name":                func(x *api.Tenant) { x.Name = "" },
		"Quota below 0":          func(x *api.Tenant) { x.Quota = -1 },
		"Next 0":                 func(x *api.Tenant) { x.Next = 0 },
		"no sets":                func(x *api.Tenant) { x.Sets = nil },
		"no root":                func(x *api.Tenant) { x.Sets = x.Sets[5:] },
		"33 sets":                func(x *api.Tenant) { x.Sets = append(x.Sets, zSets(23)...) },
		"sets that fall":         func(x *api.Tenant) { x.Sets[5], x.Sets[6] = x.Sets[6], x.Sets[5] },
		"a set twice":            func(x *api.Tenant) { x.Sets[2].Path = "alpha" },
		"no parent":              func(x *api.Tenant) { x.Sets[7].Path = "nowhere/plain" },
		"a set of no path":       func(x *api.Tenant) { x.Sets[2].Path = "alpha@" },
		"properties that fall":   func(x *api.Tenant) { x.Sets[1].Own = own("b=1", "a=1") },
		"a Body that falls":      func(x *api.Tenant) { x.Sets[1].Body = content(2, 1) },
		"17 snapshots":           func(x *api.Tenant) { x.Sets[7].Snaps = snapsOf(17) },
		"Guids that fall":        func(x *api.Tenant) { x.Sets[1].Snaps[1].Guid = 2 },
		"a Name twice":           func(x *api.Tenant) { x.Sets[1].Snaps[2].Name = "monday" },
		"a snapshot of no name":  func(x *api.Tenant) { x.Sets[1].Snaps[0].Name = "Monday" },
		"a tag of no name":       func(x *api.Tenant) { x.Sets[1].Snaps[0].Tags[0] = "" },
		"a tag with great ones":  func(x *api.Tenant) { x.Sets[1].Snaps[0].Tags[2] = "Ff" },
		"tags that fall":         func(x *api.Tenant) { slices.Reverse(x.Sets[1].Snaps[0].Tags) },
		"a tag twice":            func(x *api.Tenant) { x.Sets[1].Snaps[0].Tags[1] = "bb" },
		"5 tags":                 func(x *api.Tenant) { x.Sets[1].Snaps[0].Tags = tags("aa bb cc dd ee") },
		"5 tags of another":      func(x *api.Tenant) { x.Sets[8].Snaps[0].Tags = tags("aa bb cc dd ee") },
		"an Origin that is gone": func(x *api.Tenant) { x.Sets[6].Origin = "beta@gone" },
		"an Origin of itself":    func(x *api.Tenant) { x.Sets[1].Origin = "alpha@monday" },
		"grants that fall":       func(x *api.Tenant) { slices.Reverse(x.Grants) },
		"a stage into the root":  func(x *api.Tenant) { x.Stages[0].Into = "" },
		"5 stages":               func(x *api.Tenant) { x.Stages = make([]api.Stage, 5) },
		"17 entries":             func(x *api.Tenant) { x.Log = make([]api.Entry, 17) },
	}
}

// goodEdits: what leaves full as one that may be.
func goodEdits() map[string]func(x *api.Tenant) {
	return map[string]func(x *api.Tenant){
		"nothing":               func(x *api.Tenant) {},
		"Quota 0":               func(x *api.Tenant) { x.Quota = 0 },
		"Quota 1":               func(x *api.Tenant) { x.Quota = 1 },
		"Quota MaxAmount":       func(x *api.Tenant) { x.Quota = maxAmount },
		"Next MaxAmount":        func(x *api.Tenant) { x.Next = maxAmount },
		"Guids to MaxAmount":    func(x *api.Tenant) { x.Sets[1].Snaps[2].Guid, x.Sets[8].Snaps[0].Guid = maxAmount, maxAmount-1 },
		"16 snapshots":          func(x *api.Tenant) { x.Sets[7].Snaps = snapsOf(16) },
		"16 with tags":          func(x *api.Tenant) { x.Sets[7].Snaps = heldSnaps(16) },
		"32 sets":               func(x *api.Tenant) { x.Sets = append(x.Sets, zSets(22)...) },
		"the root alone":        func(x *api.Tenant) { x.Sets, x.Stages = x.Sets[:1], nil },
		"no tags":               noTags,
		"4 tags of all":         func(x *api.Tenant) { allTags(x, "aa cc ee gg") },
		"3 tags of all":         func(x *api.Tenant) { allTags(x, "keep x-ray zz") },
		"a clone of a held one": func(x *api.Tenant) { x.Sets[3].Origin = "alpha/one/two@zulu" },
		"clones of each other":  func(x *api.Tenant) { x.Sets[1].Origin = "alpha/one/two@mike" },
		"no stages":             func(x *api.Tenant) { x.Stages = nil },
	}
}

func noTags(x *api.Tenant) {
	allTags(x, "")
}

// allTags: each snapshot has these.
func allTags(x *api.Tenant, l string) {
	for i := range x.Sets {
		for j := range x.Sets[i].Snaps {
			x.Sets[i].Snaps[j].Tags = tags(l)
		}
	}
}

// heldSnaps: n snapshots with tags.
func heldSnaps(n int) []api.Snap {
	out := snapsOf(n)
	for i := range out {
		out[i].Tags = tags("keep old")[i%2:]
	}
	return out
}

// zSets: n empty sets beneath zeta.
func zSets(n int) []api.Set {
	var out []api.Set
	for i := range n {
		out = append(out, api.Set{Path: fmt.Sprintf("zeta/%02d", i)})
	}
	return out
}

// tenants: those that may be and those that may not, by what they are called.
func tenants() map[string]api.Tenant {
	out := map[string]api.Tenant{"zero": {}, "filled": filled[api.Tenant](2)}
	for what, do := range goodEdits() {
		out[what] = onto(full(), do)
	}
	for what, do := range badEdits() {
		if out[what].Name != "" {
			panic("two edits are called " + what)
		}
		out[what] = onto(full(), do)
	}
	return out
}

// pick: one of them.
func pick[T any](r *rand.Rand, l []T) T {
	return l[r.Intn(len(l))]
}

// part: some of them, in their order.
func part[T any](r *rand.Rand, l []T, most int) []T {
	var out []T
	places := r.Perm(len(l))[:r.Intn(min(most, len(l))+1)]
	slices.Sort(places)
	for _, i := range places {
		out = append(out, l[i])
	}
	return out
}

// stock: names, rising, that sets, snapshots, tags and properties have.
var stock = []string{"a", "a-", "a0", "a_", "aa", "b", "b-c", longestName, "c", "monday", "old", "z"}

// someSnaps: half of them with tags, often with as many as may be.
func someSnaps(r *rand.Rand) []api.Snap {
	var out []api.Snap
	names := part(r, stock, pick(r, []int{0, 1, 3, 5}))
	r.Shuffle(len(names), func(i, j int) { names[i], names[j] = names[j], names[i] })
	guid := 0
	for _, name := range names {
		guid += 1 + pick(r, []int{0, 1, 500})
		n := api.Snap{Name: name, Guid: guid, Body: content(part(r, []int{0, 1, 511, 1023}, 4)...)}
		if r.Intn(4) == 0 {
			n.Own = own("a=on", "b=~")
		}
		if r.Intn(2) == 0 {
			n.Tags = part(r, stock, 4)
		}
		out = append(out, n)
	}
	return out
}

// somePaths: closed under parents, rising.
func somePaths(r *rand.Rand, most int) []string {
	out := []string{""}
	for len(out) < most {
		under := pick(r, out)
		if strings.Count(under, "/") == 3 {
			continue
		}
		path := strings.TrimPrefix(under+"/"+pick(r, stock), "/")
		if !slices.Contains(out, path) {
			out = append(out, path)
		}
	}
	slices.Sort(out)
	return out
}

// someTenant: one that may be.
func someTenant(r *rand.Rand) api.Tenant {
	x := api.Tenant{Name: pick(r, stock), Quota: r.Intn(300), Next: 1 + r.Intn(999)}
	for _, path := range somePaths(r, pick(r, []int{1, 2, 4, 8, 32})) {
		x.Sets = append(x.Sets, api.Set{Path: path, Body: content(part(r, []int{0, 1, 2, 700}, 4)...), Snaps: someSnaps(r)})
	}
	for i, s := range x.Sets {
		if all := snapsAll(x); len(all) > 0 && r.Intn(3) == 0 {
			if n := pick(r, all); n.Path != s.Path {
				x.Sets[i].Origin = n.Path + "@" + n.Name
			}
		}
	}
	for _, user := range part(r, stock, 3) {
		x.Grants = append(x.Grants, api.Grant{User: user, Path: pick(r, stock), Perms: 1 + r.Intn(255)})
	}
	for _, into := range part(r, stock, 4) {
		x.Stages = append(x.Stages, stageInto(into, content(3)...))
	}
	for range r.Intn(4) {
		x.Log = append(x.Log, api.Entry{User: pick(r, stock), Kind: r.Intn(9), Path: pick(r, stock)})
	}
	return x
}
