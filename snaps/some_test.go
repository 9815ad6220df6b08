package snaps_test

import (
	"fmt"
	"math/rand"
	"slices"
	"strings"

	"godown/api"
)

// What the tests are made of: contents, properties and tenants.

// The limits, as the document writes them.
const (
	maxAmount = 1 << 40
	maxSets   = 32
	maxSnaps  = 16
)

var (
	longestName = strings.Repeat("b", 16)
	longestPath = strings.Repeat("/"+longestName, 4)[1:]
)

// text: the Data of a block, unlike those of other seeds.
func text(seed int) string {
	return fmt.Sprintf("data of %08d", seed)
}

// at: a block.
func at(index, seed int) api.Block {
	return api.Block{Index: index, Data: text(seed)}
}

// content: blocks at these indexes, each with Data of its own.
func content(indexes ...int) []api.Block {
	var out []api.Block
	for _, i := range indexes {
		out = append(out, at(i, i))
	}
	return out
}

// span: the content of n blocks from that index on.
func span(from, n int) []api.Block {
	var out []api.Block
	for i := range n {
		out = append(out, at(from+i, i))
	}
	return out
}

// own: properties, each told as name=value.
func own(l ...string) []api.Prop {
	var out []api.Prop
	for _, s := range l {
		name, value, _ := strings.Cut(s, "=")
		out = append(out, api.Prop{Name: name, Value: value})
	}
	return out
}

// ownOf: n properties, p0 the first.
func ownOf(n int) []api.Prop {
	var out []api.Prop
	for i := range n {
		out = append(out, api.Prop{Name: fmt.Sprintf("p%d", i), Value: strings.Repeat("v", i)})
	}
	return out
}

// snapsOf: n snapshots, n1 the first, of Guids from 1 on.
func snapsOf(n int) []api.Snap {
	var out []api.Snap
	for i := range n {
		out = append(out, api.Snap{Name: fmt.Sprintf("n%d", i+1), Guid: i + 1})
	}
	return out
}

// stageInto: a stage of that content.
func stageInto(into string, body ...api.Block) api.Stage {
	begin := api.Record{Kind: 1, Name: "first", From: 3, Guid: 9, Own: own("copies=1")}
	return api.Stage{Into: into, Begin: begin, Body: body, At: 300, Next: 10, Sum: api.Sum{A: 1, B: 2, C: 3, D: 1 << 63}}
}

// fullCharge is full's: 10 sets, 9 snapshots and 2 stages, 25 blocks.
const fullCharge = 46

// full: a tenant that may be, with something of each kind: snapshots with
// clones, with tags, with both and with neither, ahead of others and last; it
// just fits when its Quota is 46.
func full() api.Tenant {
	return api.Tenant{
		Name: "tenant-1", Quota: 60, Next: 90,
		Sets: []api.Set{
			{Path: "", Body: content(0, 1023), Own: own("atime=on", "copies=1"), Snaps: []api.Snap{
				{Name: "monday", Guid: 1, Own: own("atime=off")},
			}},
			{Path: "alpha", Body: content(1, 2, 3, 7, 9), Own: own("atime=off", "copies=2", "quota=none"), Snaps: []api.Snap{
				{Name: "monday", Guid: 2, Body: content(1, 2, 3)},
				{Name: "noon", Guid: 5, Body: content(2), Tags: []string{"keep"}, Own: own("x=noon")},
				{Name: "friday", Guid: 7, Body: content(3), Own: own("a=", "b=~ ~")},
			}},
			{Path: "alpha/one", Origin: "@monday", Own: own("copies=3")},
			{Path: "alpha/one/two", Origin: "alpha@friday", Body: content(4, 5), Own: own("z=last"), Snaps: []api.Snap{
				{Name: "monday", Guid: 11, Body: content(4), Own: own("z=first")},
				{Name: "tuesday", Guid: 12, Body: content(5)},
			}},
			{Path: "beta", Snaps: []api.Snap{
				{Name: "old", Guid: 7, Body: content(8)},
				{Name: "new", Guid: 8, Body: content(0), Tags: []string{"keep", "keep-2"}},
			}},
			{Path: "beta-2", Body: content(6), Snaps: []api.Snap{
				{Name: "seen", Guid: 20, Tags: []string{"x"}},
			}},
			{Path: "gamma", Origin: "beta-2@seen", Body: content(6)},
			{Path: "plain"},
			{Path: "staged", Body: content(512)},
			{Path: "zeta", Origin: "alpha@friday", Body: content(3)},
		},
		Grants: []api.Grant{
			{User: "alice", Path: "", Perms: 255}, {User: "alice", Path: "alpha/one/two", Perms: 3},
			{User: "bob", Path: "gamma", Perms: 64}, {User: "bob", Path: "gone/away", Perms: 1}, {User: "bob", Path: "plain", Perms: 128},
		},
		Stages: []api.Stage{stageInto("alpha/one/two/new", content(5, 9)...), stageInto("staged", content(1)...)},
		Log:    []api.Entry{{User: "alice", Kind: 3, Path: "plain", Err: api.ErrHeld}, {Kind: 1}, {User: "bob", Kind: 2, Path: "gamma"}},
	}
}

// alone: a tenant with the root alone.
func alone(quota int) api.Tenant {
	return api.Tenant{Name: "t", Quota: quota, Next: 1, Sets: []api.Set{{}}}
}

// setsAt: a set at each of the paths.
func setsAt(l ...string) []api.Set {
	var out []api.Set
	for _, path := range l {
		out = append(out, api.Set{Path: path})
	}
	return out
}

// flat: the root with the snapshot n1, and n - 1 sets beneath it, of a charge of
// n + 1.
func flat(n int) api.Tenant {
	x := alone(1000)
	x.Sets[0].Snaps = snapsOf(1)
	for i := range n - 1 {
		x.Sets = append(x.Sets, api.Set{Path: fmt.Sprintf("s%02d", i)})
	}
	return x
}

// onto: a tenant to which it is done.
func onto(x api.Tenant, do func(x *api.Tenant)) api.Tenant {
	do(&x)
	return x
}

// pathsOf: of all sets, in their order.
func pathsOf(x api.Tenant) []string {
	var out []string
	for _, s := range x.Sets {
		out = append(out, s.Path)
	}
	return out
}

// snapOf: a snapshot, and the set that it stands in.
type snapOf struct {
	Path, Name string
}

// snapsAll: of all sets, in their order.
func snapsAll(x api.Tenant) []snapOf {
	var out []snapOf
	for _, s := range x.Sets {
		for _, n := range s.Snaps {
			out = append(out, snapOf{s.Path, n.Name})
		}
	}
	return out
}

// noNames: and no path's part is.
func noNames() []string {
	return []string{"A", "bC", "b c", " b", "b ", "b@c", "@b", "b@", "b.c", "b:c", "é", "b\x00", "\xff", "b\n", "`", "{", "^", ",", strings.Repeat("b", 17), strings.Repeat("b", 1000)}
}

// noSnapNames: what no snapshot is called: paths are no names, nor is no text.
func noSnapNames() []string {
	return append(noNames(), "", "/", "a/b", "monday/", "/monday", "alpha@monday", "@monday", "monday@", "MONDAY")
}

// noPaths: what is no path.
func noPaths() []string {
	out := []string{"/", "//", "/alpha", "alpha/", "alpha//one", "/alpha/one", "a/b/c/d/e", "a/b/c/d/", "alpha/\x00", "ALPHA", "alpha@monday", longestPath + "b", longestPath + "/b"}
	for _, s := range noNames() {
		out = append(out, s, "alpha/"+s, s+"/alpha", "alpha/one/two/"+s)
	}
	return out
}

// badEdits: what makes full a tenant that may not be, one of each kind.
func badEdits() map[string]func(x *api.Tenant) {
	return map[string]func(x *api.Tenant){
		"no Name":                 func(x *api.Tenant) { x.Name = "" },
		"a great letter":          func(x *api.Tenant) { x.Name = "Tenant" },
		"Quota below 0":           func(x *api.Tenant) { x.Quota = -1 },
		"Quota above MaxAmount":   func(x *api.Tenant) { x.Quota = maxAmount + 1 },
		"Next 0":                  func(x *api.Tenant) { x.Next = 0 },
		"Next above MaxAmount":    func(x *api.Tenant) { x.Next = maxAmount + 1 },
		"no sets":                 func(x *api.Tenant) { x.Sets = nil },
		"no root":                 func(x *api.Tenant) { x.Sets = x.Sets[4:] },
		"33 sets":                 func(x *api.Tenant) { x.Sets = flat(33).Sets },
		"sets that fall":          func(x *api.Tenant) { x.Sets[4], x.Sets[5] = x.Sets[5], x.Sets[4] },
		"a set twice":             func(x *api.Tenant) { x.Sets[8].Path = "plain" },
		"no parent":               func(x *api.Tenant) { x.Sets[7].Path = "nowhere/plain" },
		"a set of no path":        func(x *api.Tenant) { x.Sets[7].Path = "p@" },
		"properties that fall":    func(x *api.Tenant) { x.Sets[1].Own = own("b=1", "a=1") },
		"9 properties":            func(x *api.Tenant) { x.Sets[1].Snaps[0].Own = ownOf(9) },
		"a Body that falls":       func(x *api.Tenant) { x.Sets[1].Body = content(2, 1) },
		"a block too long":        func(x *api.Tenant) { x.Sets[9].Body[0].Data += "b" },
		"a snapshot's falls":      func(x *api.Tenant) { x.Sets[1].Snaps[0].Body = content(2, 1) },
		"17 snapshots":            func(x *api.Tenant) { x.Sets[7].Snaps = snapsOf(17) },
		"Guid 0":                  func(x *api.Tenant) { x.Sets[0].Snaps[0].Guid = 0 },
		"Guid above MaxAmount":    func(x *api.Tenant) { x.Sets[0].Snaps[0].Guid = maxAmount + 1 },
		"Guids that fall":         func(x *api.Tenant) { x.Sets[1].Snaps[1].Guid = 2 },
		"a snapshot's Name twice": func(x *api.Tenant) { x.Sets[1].Snaps[1].Name = "monday" },
		"a snapshot of no name":   func(x *api.Tenant) { x.Sets[4].Snaps[0].Name = "Old" },
		"a tag of no name":        func(x *api.Tenant) { x.Sets[4].Snaps[1].Tags[0] = "" },
		"5 tags":                  func(x *api.Tenant) { x.Sets[4].Snaps[1].Tags = []string{"a", "b", "c", "d", "e"} },
		"an Origin that is gone":  func(x *api.Tenant) { x.Sets[6].Origin = "beta-2@gone" },
		"an Origin of itself":     func(x *api.Tenant) { x.Sets[1].Origin = "alpha@monday" },
		"grants that fall":        func(x *api.Tenant) { slices.Reverse(x.Grants) },
		"a grant of nothing":      func(x *api.Tenant) { x.Grants[4].Perms = 0 },
		"a stage into the root":   func(x *api.Tenant) { x.Stages[0].Into = "" },
		"a stage twice":           func(x *api.Tenant) { x.Stages[0].Into = "staged" },
		"a stage of no begin":     func(x *api.Tenant) { x.Stages[1].Begin.Kind = 2 },
		"5 stages":                func(x *api.Tenant) { x.Stages = make([]api.Stage, 5) },
		"17 entries":              func(x *api.Tenant) { x.Log = make([]api.Entry, 17) },
		"an entry below 0":        func(x *api.Tenant) { x.Log[2].Err = -1 },
	}
}

// goodEdits: what leaves full as one that may be.
func goodEdits() map[string]func(x *api.Tenant) {
	return map[string]func(x *api.Tenant){
		"nothing":               func(x *api.Tenant) {},
		"it fits just":          func(x *api.Tenant) { x.Quota = fullCharge },
		"one to spare":          func(x *api.Tenant) { x.Quota = fullCharge + 1 },
		"one too much":          func(x *api.Tenant) { x.Quota = fullCharge - 1 },
		"Quota 0":               func(x *api.Tenant) { x.Quota = 0 },
		"Quota MaxAmount":       func(x *api.Tenant) { x.Quota = maxAmount },
		"Next 1":                func(x *api.Tenant) { x.Next = 1 },
		"Next 8":                func(x *api.Tenant) { x.Next = 8 },
		"Next below MaxAmount":  func(x *api.Tenant) { x.Next = maxAmount - 1 },
		"Next MaxAmount":        func(x *api.Tenant) { x.Next = maxAmount },
		"Guids to MaxAmount":    func(x *api.Tenant) { x.Sets[1].Snaps[2].Guid, x.Sets[4].Snaps[1].Guid = maxAmount, maxAmount-1 },
		"15 snapshots":          func(x *api.Tenant) { x.Sets[7].Snaps = snapsOf(15) },
		"16 snapshots":          func(x *api.Tenant) { x.Sets[7].Snaps, x.Quota = snapsOf(16), fullCharge+16 },
		"31 sets":               func(x *api.Tenant) { x.Sets = flat(31).Sets },
		"32 sets":               func(x *api.Tenant) { x.Sets = flat(32).Sets },
		"the root alone":        func(x *api.Tenant) { x.Sets, x.Stages = setsAt(""), nil },
		"a full Body":           func(x *api.Tenant) { x.Sets[7].Body, x.Quota = span(0, 1024), 5000 },
		"full Own":              func(x *api.Tenant) { x.Sets[7].Own = ownOf(8) },
		"4 tags":                func(x *api.Tenant) { x.Sets[1].Snaps[2].Tags = []string{"a", "b", "c", "d"} },
		"clones of each other":  func(x *api.Tenant) { x.Sets[1].Origin = "alpha/one/two@monday" },
		"the root, a clone":     func(x *api.Tenant) { x.Sets[0].Origin = "alpha@monday" },
		"many clones":           func(x *api.Tenant) { x.Sets[2].Origin, x.Sets[6].Origin = "alpha@friday", "alpha@friday" },
		"no stages":             func(x *api.Tenant) { x.Stages = nil },
		"a longest path":        func(x *api.Tenant) { x.Sets = setsAt("", longestName, longestPath[:33], longestPath[:50], longestPath) },
		"paths that are alike":  func(x *api.Tenant) { x.Sets = setsAt("", "a", "a-", "a-b", "a-b/c", "a/b", "a0", "a_", "aa", "aa/b") },
		"a stage into a parent": func(x *api.Tenant) { x.Stages[0].Into = "alpha" },
	}
}

// tenants: those that may be and those that may not, by what they are called.
func tenants() map[string]api.Tenant {
	out := map[string]api.Tenant{"zero": {}, "filled": filled[api.Tenant](2)}
	for what, do := range goodEdits() {
		out[what] = onto(full(), do)
	}
	for what, do := range badEdits() {
		if out[what].Name != "" {
			panic("two edits are called " + what)
		}
		out[what] = onto(full(), do)
	}
	return out
}

// pick: one of them.
func pick[T any](r *rand.Rand, l []T) T {
	return l[r.Intn(len(l))]
}

// part: some of them, in their order.
func part[T any](r *rand.Rand, l []T, most int) []T {
	var out []T
	places := r.Perm(len(l))[:r.Intn(min(most, len(l))+1)]
	slices.Sort(places)
	for _, i := range places {
		out = append(out, l[i])
	}
	return out
}

// stock: names, rising, that sets, snapshots, tags and properties have.
var stock = []string{"a", "a-", "a0", "a_", "aa", "b", "b-c", longestName, "c", "monday", "old", "z"}

func someBody(r *rand.Rand) []api.Block {
	var out []api.Block
	for _, i := range part(r, []int{0, 1, 2, 3, 4, 5, 511, 1022, 1023}, pick(r, []int{0, 1, 4, 9})) {
		out = append(out, at(i, r.Intn(3)))
	}
	return out
}

func someOwn(r *rand.Rand) []api.Prop {
	var out []api.Prop
	for _, name := range part(r, stock, pick(r, []int{0, 1, 4, 8})) {
		out = append(out, api.Prop{Name: name, Value: strings.Repeat(pick(r, []string{"on", "~", " "}), r.Intn(17))})
	}
	return out
}

// someSnaps: now and then as many as may be, and Guids near MaxAmount.
func someSnaps(r *rand.Rand) []api.Snap {
	var out []api.Snap
	names := part(r, stock, pick(r, []int{0, 1, 3, 5}))
	if r.Intn(8) == 0 {
		names = append(slices.Clone(stock), "n1", "n2", "n3", "n4")[pick(r, []int{0, 0, 1}):]
	}
	r.Shuffle(len(names), func(i, j int) { names[i], names[j] = names[j], names[i] })
	guid := pick(r, []int{0, 0, 0, 0, 0, 0, 0, maxAmount - len(names) - 1, maxAmount - len(names)})
	for _, name := range names {
		guid += 1
		if guid < 9999 {
			guid += pick(r, []int{0, 1, 500})
		}
		n := api.Snap{Name: name, Guid: guid, Body: someBody(r), Own: someOwn(r)}
		if r.Intn(4) == 0 {
			n.Tags = part(r, stock, 4)
		}
		out = append(out, n)
	}
	return out
}

// somePaths: closed under parents, rising.
func somePaths(r *rand.Rand, most int) []string {
	out := []string{""}
	for len(out) < most {
		under := pick(r, out)
		if strings.Count(under, "/") == 3 {
			continue
		}
		path := pick(r, stock)
		if under != "" {
			path = under + "/" + path
		}
		if !slices.Contains(out, path) {
			out = append(out, path)
		}
	}
	slices.Sort(out)
	return out
}

func someSets(r *rand.Rand) []api.Set {
	var out []api.Set
	var snaps []string
	for _, path := range somePaths(r, pick(r, []int{1, 2, 4, 8, 31, 32})) {
		s := api.Set{Path: path, Body: someBody(r), Own: someOwn(r), Snaps: someSnaps(r)}
		for _, n := range s.Snaps {
			snaps = append(snaps, path+"@"+n.Name)
		}
		out = append(out, s)
	}
	if len(snaps) > 9 && r.Intn(2) == 0 {
		snaps = snaps[:2] // of which there are many clones then
	}
	for i, s := range out {
		if len(snaps) == 0 || r.Intn(3) > 0 {
			continue
		}
		if origin := pick(r, snaps); !strings.HasPrefix(origin, s.Path+"@") {
			out[i].Origin = origin
		}
	}
	return out
}

// someTenant: one that may be, most often of a Quota near its charge.
func someTenant(r *rand.Rand) api.Tenant {
	x := api.Tenant{Name: pick(r, stock), Next: 1 + r.Intn(9), Sets: someSets(r)}
	if r.Intn(12) == 0 {
		x.Next = maxAmount - r.Intn(4)
	}
	for _, user := range part(r, stock, 3) {
		for _, path := range part(r, []string{"", "a", "a/b", "z"}, 4) {
			x.Grants = append(x.Grants, api.Grant{User: user, Path: path, Perms: 1 + r.Intn(255)})
		}
	}
	for _, into := range part(r, somePaths(r, 8)[1:], 4) {
		s := stageInto(into, someBody(r)...)
		s.Done = r.Intn(2) == 0
		x.Stages = append(x.Stages, s)
	}
	for range r.Intn(4) {
		x.Log = append(x.Log, api.Entry{User: pick(r, stock), Kind: r.Intn(9), Path: pick(r, stock)})
	}
	x.Quota = max(chargeOf(x)+pick(r, []int{-1, 0, 1, 2, 3, 100}), 0)
	return x
}
