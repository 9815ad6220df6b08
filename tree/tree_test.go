package tree_test

import (
	"fmt"
	"maps"
	"math"
	"math/rand"
	"regexp"
	"slices"
	"strings"
	"testing"

	"godown/api"
	"godown/tree"
)

// The limits, as the document writes them.
const (
	maxAmount = 1 << 40
	maxSets   = 32
	maxSnaps  = 16
	maxTags   = 4
	maxStages = 4
	maxLog    = 16
	maxGrants = 16
	maxProps  = 8
	maxIndex  = 1 << 10
)

// The document's words, as patterns.
var (
	namePattern  = regexp.MustCompile(`\A[a-z0-9_-]{1,16}\z`)
	pathPattern  = regexp.MustCompile(`\A([a-z0-9_-]{1,16}(/[a-z0-9_-]{1,16}){0,3})?\z`)
	snapPattern  = regexp.MustCompile(`\A((?:[a-z0-9_-]{1,16}(?:/[a-z0-9_-]{1,16}){0,3})?)@([a-z0-9_-]{1,16})\z`)
	valuePattern = regexp.MustCompile(`\A[ -~]{0,32}\z`)
)

// words: whether all that was asked of a tenant holds.
type words struct {
	broken bool
}

func (w *words) must(holds bool) {
	w.broken = w.broken || !holds
}

// from: whether n is from low to high.
func (w *words) from(low, n, high int) {
	w.must(n >= low && n <= high)
}

// apart: whether no two of the keys are one.
func apart[K comparable](w *words, keys ...K) {
	met := map[K]int{}
	for _, k := range keys {
		met[k]++
		w.must(met[k] == 1)
	}
}

// rise: whether the keys are as they are when they are sorted, none twice.
func rise(w *words, keys ...string) {
	apart(w, keys...)
	w.must(slices.Equal(keys, slices.Sorted(slices.Values(keys))))
}

func (w *words) body(l []api.Block) {
	least := 0
	for _, b := range l {
		w.from(least, b.Index, maxIndex-1)
		w.must(len(b.Data) == 16)
		least = max(least, b.Index+1)
	}
}

func (w *words) own(l []api.Prop) {
	w.must(len(l) <= maxProps)
	var keys []string
	for _, p := range l {
		w.must(namePattern.MatchString(p.Name))
		w.must(valuePattern.MatchString(p.Value))
		keys = append(keys, p.Name)
	}
	rise(w, keys...)
}

func (w *words) snaps(l []api.Snap) {
	w.must(len(l) <= maxSnaps)
	var keys []string
	last := 0
	for _, n := range l {
		w.must(namePattern.MatchString(n.Name))
		w.from(last+1, n.Guid, maxAmount)
		last = min(max(last, n.Guid), maxAmount)
		w.body(n.Body)
		w.own(n.Own)
		w.must(len(n.Tags) <= maxTags)
		for _, tag := range n.Tags {
			w.must(namePattern.MatchString(tag))
		}
		rise(w, n.Tags...)
		keys = append(keys, n.Name)
	}
	apart(w, keys...)
}

func (w *words) sets(l []api.Set) {
	w.must(len(l) <= maxSets)
	there, snaps := map[string]int{}, map[string]int{}
	var keys []string
	for _, s := range l {
		there[s.Path]++
		for _, n := range s.Snaps {
			snaps[s.Path+"@"+n.Name]++
		}
		keys = append(keys, s.Path)
	}
	rise(w, keys...)
	w.must(there[""] > 0)
	for _, s := range l {
		w.must(pathPattern.MatchString(s.Path))
		for i, c := range s.Path {
			w.must(c != '/' || there[s.Path[:i]] > 0)
		}
		w.must(s.Origin == "" || snapPattern.MatchString(s.Origin) && snaps[s.Origin] > 0)
		w.must(!strings.HasPrefix(s.Origin, s.Path+"@"))
		w.body(s.Body)
		w.own(s.Own)
		w.snaps(s.Snaps)
	}
}

func (w *words) grants(l []api.Grant) {
	w.must(len(l) <= maxGrants)
	var keys []string
	for _, g := range l {
		w.must(namePattern.MatchString(g.User))
		w.must(pathPattern.MatchString(g.Path))
		w.from(1, g.Perms, 255)
		keys = append(keys, g.User+"\x00"+g.Path)
	}
	rise(w, keys...)
}

func (w *words) stages(l []api.Stage) {
	w.must(len(l) <= maxStages)
	var keys []string
	for _, s := range l {
		w.must(s.Into != "" && pathPattern.MatchString(s.Into))
		w.must(namePattern.MatchString(s.Begin.Name))
		w.from(0, s.Begin.From, maxAmount)
		w.from(1, s.Begin.Guid, maxAmount)
		w.own(s.Begin.Own)
		rest := s.Begin
		rest.Name, rest.From, rest.Guid, rest.Own = "", 0, 0, nil
		w.must(one(rest, api.Record{Kind: 1}))
		w.body(s.Body)
		w.from(0, s.At, maxAmount)
		w.from(0, s.Next, maxAmount)
		keys = append(keys, s.Into)
	}
	rise(w, keys...)
}

func (w *words) log(l []api.Entry) {
	w.must(len(l) <= maxLog)
	for _, e := range l {
		w.must(e.User == "" || namePattern.MatchString(e.User))
		w.must(pathPattern.MatchString(e.Path))
		w.from(0, e.Kind, maxAmount)
		w.from(0, int(e.Err), maxAmount)
	}
}

// wantCheck: each of the words by itself.
func wantCheck(t api.Tenant) api.Errno {
	var w words
	w.must(namePattern.MatchString(t.Name))
	w.from(0, t.Quota, maxAmount)
	w.from(1, t.Next, maxAmount)
	w.sets(t.Sets)
	w.grants(t.Grants)
	w.stages(t.Stages)
	w.log(t.Log)
	if w.broken {
		return api.ErrState
	}
	return api.OK
}

// content: a block at each of the indexes.
func content(at ...int) []api.Block {
	var out []api.Block
	for _, i := range at {
		out = append(out, api.Block{Index: i, Data: fmt.Sprintf("block %010d", i)})
	}
	return out
}

// own: properties, each told as name=value.
func own(l ...string) []api.Prop {
	var out []api.Prop
	for _, s := range l {
		name, value, _ := strings.Cut(s, "=")
		out = append(out, api.Prop{Name: name, Value: value})
	}
	return out
}

// full: a tenant with something of each kind.
func full() api.Tenant {
	return api.Tenant{
		Name: "tenant-1", Quota: 500, Next: 90,
		Sets: []api.Set{
			{Path: "", Body: content(0, 1023), Own: own("atime=on", "copies=1"), Snaps: []api.Snap{
				{Name: "monday", Guid: 1, Own: own("atime=off")},
			}},
			{Path: "alpha", Origin: "@monday", Body: content(3), Own: own("copies=2"), Snaps: []api.Snap{
				{Name: "monday", Guid: 2, Body: content(1, 2, 3), Tags: []string{"keep"}},
				{Name: "friday", Guid: 7, Body: content(3), Own: own("a=", "b=~ ~"), Tags: []string{"keep", "keep-2", "x"}},
				{Name: "again", Guid: 80, Body: content(4)},
			}},
			{Path: "alpha/one", Origin: "alpha@monday", Snaps: []api.Snap{
				{Name: "friday", Guid: 5, Body: content(5, 6)},
			}},
			{Path: "alpha/one/two", Body: content(7), Own: own("quota=none")},
			{Path: "alpha/one/two/three", Origin: "beta@old", Own: own("atime=relative", "z=1")},
			{Path: "beta", Origin: "alpha@monday", Snaps: []api.Snap{
				{Name: "old", Guid: 7, Own: own("copies=3")},
				{Name: "new", Guid: 8, Body: content(0), Tags: []string{"t"}},
			}},
		},
		Grants: []api.Grant{{User: "alice", Path: "", Perms: 255}, {User: "alice", Path: "alpha", Perms: 1}, {User: "bob", Path: "gone/away", Perms: 64}},
		Stages: []api.Stage{
			{Into: "alpha/one", Begin: api.Record{Kind: 1, Name: "friday", From: 5, Guid: 9, Own: own("copies=1")}, Body: content(5, 9), At: 300, Next: 10, Sum: api.Sum{A: 1, B: 2, C: 3, D: 1 << 63}},
			{Into: "new/one", Begin: api.Record{Kind: 1, Name: "first", Guid: 1}, Body: content(1), Done: true},
		},
		Log: []api.Entry{{User: "alice", Kind: 3, Path: "alpha", Err: api.ErrHeld}, {Kind: 1}, {User: "bob", Kind: 3, Path: "no/where", Err: api.ErrNone}},
	}
}

// alone: a tenant with the root alone.
func alone() api.Tenant {
	return api.Tenant{Name: "t", Next: 1, Sets: []api.Set{{}}}
}

// flat: the root and n - 1 sets beneath it.
func flat(n int) api.Tenant {
	t := alone()
	for i := range n - 1 {
		t.Sets = append(t.Sets, api.Set{Path: fmt.Sprintf("s%06d", i)})
	}
	return t
}

// snapsOf: n snapshots.
func snapsOf(n int) []api.Snap {
	var out []api.Snap
	for i := range n {
		out = append(out, api.Snap{Name: fmt.Sprintf("n%d", n-i), Guid: 2*i + 1})
	}
	return out
}

// tagsOf: n tags.
func tagsOf(n int) []string {
	var out []string
	for i := range n {
		out = append(out, fmt.Sprintf("tag%06d", i))
	}
	return out
}

// stagesOf: n stages.
func stagesOf(n int) []api.Stage {
	var out []api.Stage
	for i := range n {
		out = append(out, api.Stage{Into: fmt.Sprintf("s%06d", i), Begin: api.Record{Kind: 1, Name: "n", Guid: 1}})
	}
	return out
}

// grantsOf: n grants.
func grantsOf(n int) []api.Grant {
	var out []api.Grant
	for i := range n {
		out = append(out, api.Grant{User: fmt.Sprintf("u%06d", i), Perms: 1 + i%255})
	}
	return out
}

// ownOf: n properties.
func ownOf(n int) []api.Prop {
	var out []api.Prop
	for i := range n {
		out = append(out, api.Prop{Name: fmt.Sprintf("p%06d", i), Value: strings.Repeat("v", i%33)})
	}
	return out
}

var (
	longestName = strings.Repeat("b", 16)
	longestPath = strings.Repeat("/"+longestName, 4)[1:]
)

// deepest: the sets of a path of four names, the root first.
func deepest(path string) []api.Set {
	out := []api.Set{{}}
	for i := range path {
		if path[i] == '/' {
			out = append(out, api.Set{Path: path[:i]})
		}
	}
	return append(out, api.Set{Path: path})
}

// edits: what is done to a tenant, by what it is called.
type edits map[string]func(t *api.Tenant)

// onto: a tenant to which it is done.
func onto(t api.Tenant, do func(t *api.Tenant)) api.Tenant {
	do(&t)
	return t
}

// goodEdits: what leaves full as one that may be.
func goodEdits() edits {
	return edits{
		"nothing":                func(t *api.Tenant) {},
		"a name of one octet":    func(t *api.Tenant) { t.Name = "-" },
		"a longest name":         func(t *api.Tenant) { t.Name = longestName },
		"Quota 0":                func(t *api.Tenant) { t.Quota = 0 },
		"Quota 1":                func(t *api.Tenant) { t.Quota = 1 },
		"Quota MaxAmount":        func(t *api.Tenant) { t.Quota = maxAmount },
		"Next 1":                 func(t *api.Tenant) { t.Next = 1 },
		"Next MaxAmount":         func(t *api.Tenant) { t.Next = maxAmount },
		"the root alone":         func(t *api.Tenant) { t.Sets = []api.Set{{}} },
		"31 sets":                func(t *api.Tenant) { t.Sets = flat(31).Sets },
		"32 sets":                func(t *api.Tenant) { t.Sets = flat(32).Sets },
		"a longest path":         func(t *api.Tenant) { t.Sets = deepest(longestPath) },
		"paths that begin alike": func(t *api.Tenant) { t.Sets = setsAt("", "a", "a-", "a-b", "a-b/c", "a/b", "a0", "a_", "aa", "aa/b") },
		"a path ahead of /":      func(t *api.Tenant) { t.Sets = setsAt("", "a", "a-", "a/b") },
		"15 snapshots":           func(t *api.Tenant) { t.Sets[3].Snaps = snapsOf(15) },
		"16 snapshots":           func(t *api.Tenant) { t.Sets[3].Snaps = snapsOf(16) },
		"16 of each of 32 sets": func(t *api.Tenant) {
			t.Sets = flat(32).Sets
			for i := range t.Sets {
				t.Sets[i].Snaps = snapsOf(16)
			}
		},
		"Guid 1":                      func(t *api.Tenant) { t.Sets[1].Snaps[0].Guid = 1 },
		"Guid MaxAmount":              func(t *api.Tenant) { t.Sets[1].Snaps[2].Guid = maxAmount },
		"Guids one behind another":    func(t *api.Tenant) { t.Sets[1].Snaps[0].Guid = 6 },
		"a Guid above Next":           func(t *api.Tenant) { t.Next = 3 },
		"one Guid in two sets":        func(t *api.Tenant) { t.Sets[2].Snaps[0].Guid = 7 },
		"one Name in each set":        func(t *api.Tenant) { t.Sets[5].Snaps[0].Name, t.Sets[4].Origin = "monday", "beta@monday" },
		"a snapshot's longest name":   func(t *api.Tenant) { t.Sets[2].Snaps[0].Name = longestName },
		"no tags":                     func(t *api.Tenant) { t.Sets[1].Snaps[1].Tags = nil },
		"4 tags":                      func(t *api.Tenant) { t.Sets[1].Snaps[1].Tags = tagsOf(4) },
		"tags that begin alike":       func(t *api.Tenant) { t.Sets[1].Snaps[1].Tags = []string{"a", "a-", "a0", "aa"} },
		"a tag of another snapshot's": func(t *api.Tenant) { t.Sets[1].Snaps[2].Tags = []string{"keep"} },
		"no Origin":                   func(t *api.Tenant) { t.Sets[1].Origin = "" },
		"the root, a clone":           func(t *api.Tenant) { t.Sets[0].Origin = "beta@new" },
		"an Origin of a kid":          func(t *api.Tenant) { t.Sets[1].Origin = "alpha/one@friday" },
		"an Origin of the parent":     func(t *api.Tenant) { t.Sets[2].Origin = "alpha@friday" },
		"an Origin with a tag":        func(t *api.Tenant) { t.Sets[2].Origin = "beta@new" },
		"clones of each other":        func(t *api.Tenant) { t.Sets[1].Origin, t.Sets[5].Origin = "beta@old", "alpha@friday" },
		"8 properties":                func(t *api.Tenant) { t.Sets[0].Own = ownOf(8) },
		"8 of a snapshot":             func(t *api.Tenant) { t.Sets[0].Snaps[0].Own = ownOf(8) },
		"8 of a stage":                func(t *api.Tenant) { t.Stages[0].Begin.Own = ownOf(8) },
		"8 of each of two, not one":   func(t *api.Tenant) { t.Sets[0].Own, t.Sets[1].Own = ownOf(8), own("a=", "b=", "c=") },
		"a content of all":            func(t *api.Tenant) { t.Sets[2].Body = all() },
		"a snapshot of all":           func(t *api.Tenant) { t.Sets[2].Snaps[0].Body = all() },
		"a stage of all":              func(t *api.Tenant) { t.Stages[1].Body = all() },
		"data of other octets":        func(t *api.Tenant) { t.Sets[0].Body[0].Data = "\x00\xff\x80é/@\n12345678" },
		"no grants":                   func(t *api.Tenant) { t.Grants = nil },
		"16 grants":                   func(t *api.Tenant) { t.Grants = grantsOf(16) },
		"no stages":                   func(t *api.Tenant) { t.Stages = nil },
		"4 stages":                    func(t *api.Tenant) { t.Stages = stagesOf(4) },
		"a stage into a longest path": func(t *api.Tenant) { t.Stages[1].Into = longestPath },
		"a stage into what is there":  func(t *api.Tenant) { t.Stages[1].Into = "beta" },
		"a stage beneath nothing":     func(t *api.Tenant) { t.Stages[1].Into = "x/y/z" },
		"a stage's From MaxAmount":    func(t *api.Tenant) { t.Stages[0].Begin.From = maxAmount },
		"a stage's Guid MaxAmount":    func(t *api.Tenant) { t.Stages[0].Begin.Guid = maxAmount },
		"a stage from above its Guid": func(t *api.Tenant) { t.Stages[0].Begin.From = 10 },
		"a stage's At MaxAmount":      func(t *api.Tenant) { t.Stages[0].At = maxAmount },
		"a stage's Next MaxAmount":    func(t *api.Tenant) { t.Stages[0].Next = maxAmount },
		"a stage of no sum":           func(t *api.Tenant) { t.Stages[0].Sum = api.Sum{} },
		"a stage of any sum":          func(t *api.Tenant) { t.Stages[0].Sum = api.Sum{A: math.MaxUint64, D: math.MaxUint64} },
		"no log":                      func(t *api.Tenant) { t.Log = nil },
		"16 entries":                  func(t *api.Tenant) { t.Log = make([]api.Entry, 16) },
		"entries that are one":        func(t *api.Tenant) { t.Log[1] = t.Log[0] },
		"entries that fall":           func(t *api.Tenant) { slices.Reverse(t.Log) },
		"an entry of a longest path":  func(t *api.Tenant) { t.Log[1].Path = longestPath },
		"an entry's Kind MaxAmount":   func(t *api.Tenant) { t.Log[1].Kind = maxAmount },
		"an entry's Err MaxAmount":    func(t *api.Tenant) { t.Log[1].Err = maxAmount },
		"an entry's Err of no name":   func(t *api.Tenant) { t.Log[1].Err = 1 },
	}
}

// setsAt: a set at each of the paths.
func setsAt(l ...string) []api.Set {
	var out []api.Set
	for _, path := range l {
		out = append(out, api.Set{Path: path})
	}
	return out
}

// all: a content of each index.
func all() []api.Block {
	var at []int
	for i := range maxIndex {
		at = append(at, i)
	}
	return content(at...)
}

// noNames: and no path's part is.
func noNames() []string {
	return []string{"A", "bC", "b c", " b", "b ", "b@c", "b.c", "b:c", "é", "b\x00", "\xff", "b\n", "`", "{", "^", ",", strings.Repeat("b", 17), strings.Repeat("b", 1000)}
}

// noPaths: nor is one a snapshot's.
func noPaths() []string {
	out := []string{"/", "//", "/b", "b/", "b//c", "/b/c", "b/c/", "a/b/c/d/e", "a/b/c/d/", "b/\x00"}
	for _, s := range noNames() {
		out = append(out, s, s+"/b", "b/"+s, "a/b/c/"+s)
	}
	return out
}

// noAmounts: nor is 0, where it is from 1.
func noAmounts() []int {
	return []int{-1, math.MinInt, -maxAmount, maxAmount + 1, 2 * maxAmount, math.MaxInt, math.MinInt + maxAmount}
}

// badEdits: what makes of full one that may not be, each by one fault.
func badEdits() edits {
	out := edits{}
	for _, more := range []edits{badHeads(), badSets(), badOrigins(), badSnaps(), badStages(), badLogs(), badParts()} {
		for what, do := range more {
			if out[what] != nil {
				panic("two edits are called " + what)
			}
			out[what] = do
		}
	}
	return out
}

func badHeads() edits {
	out := edits{
		"no name":             func(t *api.Tenant) { t.Name = "" },
		"Next 0":              func(t *api.Tenant) { t.Next = 0 },
		"17 grants":           func(t *api.Tenant) { t.Grants = grantsOf(17) },
		"grants that fall":    func(t *api.Tenant) { t.Grants[0], t.Grants[1] = t.Grants[1], t.Grants[0] },
		"a grant twice":       func(t *api.Tenant) { t.Grants[1] = t.Grants[0] },
		"a grant of nobody":   func(t *api.Tenant) { t.Grants[0].User = "" },
		"a grant of no right": func(t *api.Tenant) { t.Grants[2].Perms = 0 },
		"a grant of 256":      func(t *api.Tenant) { t.Grants[2].Perms = 256 },
		"a grant below 0":     func(t *api.Tenant) { t.Grants[2].Perms = -1 },
	}
	for _, name := range append(noNames(), "b/c") {
		out[fmt.Sprintf("Name %q", name)] = func(t *api.Tenant) { t.Name = name }
		out[fmt.Sprintf("a grant of %q", name)] = func(t *api.Tenant) { t.Grants = []api.Grant{{User: name, Perms: 1}} }
	}
	for _, n := range noAmounts() {
		out[fmt.Sprintf("Quota %d", n)] = func(t *api.Tenant) { t.Quota = n }
		out[fmt.Sprintf("Next %d", n)] = func(t *api.Tenant) { t.Next = n }
	}
	for _, path := range noPaths() {
		out[fmt.Sprintf("a grant from %q", path)] = func(t *api.Tenant) { t.Grants[1].Path = path }
	}
	return out
}

func badSets() edits {
	out := edits{
		"no sets":                 func(t *api.Tenant) { t.Sets = nil },
		"33 sets":                 func(t *api.Tenant) { t.Sets = flat(33).Sets },
		"no root":                 func(t *api.Tenant) { t.Sets = t.Sets[1:] },
		"no root, one set":        func(t *api.Tenant) { t.Sets = setsAt("a") },
		"no root, one kid":        func(t *api.Tenant) { t.Sets = setsAt("a/b") },
		"the root twice":          func(t *api.Tenant) { t.Sets = slices.Insert(t.Sets, 0, api.Set{}) },
		"the root last":           func(t *api.Tenant) { t.Sets = setsAt("a", "") },
		"a set twice":             func(t *api.Tenant) { t.Sets = slices.Insert(t.Sets, 3, api.Set{Path: "alpha/one/two"}) },
		"the last set twice":      func(t *api.Tenant) { t.Sets = append(t.Sets, api.Set{Path: "beta"}) },
		"sets that fall":          func(t *api.Tenant) { t.Sets = setsAt("", "b", "a") },
		"sets that fall late":     func(t *api.Tenant) { t.Sets = setsAt("", "a", "a/b", "a-") },
		"a kid ahead of a parent": func(t *api.Tenant) { t.Sets = setsAt("", "a/b", "a") },
		"no parent":               func(t *api.Tenant) { t.Sets = setsAt("", "a/b") },
		"no parent, a neighbour":  func(t *api.Tenant) { t.Sets = setsAt("", "a", "a-/b") },
		"no parent, longer":       func(t *api.Tenant) { t.Sets = setsAt("", "a/b", "ab") },
		"no parent, shorter":      func(t *api.Tenant) { t.Sets = setsAt("", "a", "ab/c") },
		"no parent, a parent's":   func(t *api.Tenant) { t.Sets = setsAt("", "a", "a/b/c") },
		"no parent at depth 4":    func(t *api.Tenant) { t.Sets = setsAt("", "a", "a/b", "a/b/c/d") },
		"no parent of the last":   func(t *api.Tenant) { t.Sets = append(t.Sets, api.Set{Path: "c/d"}) },
		"a path of five names":    func(t *api.Tenant) { t.Sets = deepest("a/b/c/d/e") },
	}
	for _, path := range noPaths() {
		l := setsAt("", path)
		if i := strings.LastIndexByte(path, '/'); i > 0 {
			l = deepest(path) // so that nothing but the path itself is at fault
		}
		out[fmt.Sprintf("a set at %q", path)] = func(t *api.Tenant) { t.Sets = l }
	}
	return out
}

func badOrigins() edits {
	out := edits{
		"an Origin of itself":             func(t *api.Tenant) { t.Sets[1].Origin = "alpha@monday" },
		"the root's of itself":            func(t *api.Tenant) { t.Sets[0].Origin = "@monday" },
		"the last one's of itself":        func(t *api.Tenant) { t.Sets[5].Origin = "beta@old" },
		"an Origin of no set":             func(t *api.Tenant) { t.Sets[1].Origin = "gamma@monday" },
		"an Origin of a missing kid":      func(t *api.Tenant) { t.Sets[1].Origin = "beta/one@monday" },
		"an Origin of no snapshot":        func(t *api.Tenant) { t.Sets[2].Origin = "alpha@tuesday" },
		"an Origin of the root's none":    func(t *api.Tenant) { t.Sets[2].Origin = "@friday" },
		"an Origin of another's snapshot": func(t *api.Tenant) { t.Sets[1].Origin = "beta@monday" },
		"an Origin of a set without":      func(t *api.Tenant) { t.Sets[1].Origin = "alpha/one/two@monday" },
		"an Origin of a stage's":          func(t *api.Tenant) { t.Sets[1].Origin = "alpha/one@first" },
		"an Origin of a tag":              func(t *api.Tenant) { t.Sets[2].Origin = "alpha@keep" },
	}
	for _, origin := range []string{"@", "alpha@", "alpha", "monday", "alpha/monday", "alpha@monday@", "@alpha@monday", "alpha@monday/", "alpha/@monday", "/alpha@monday", "alpha@Monday", "Alpha@monday", "alpha@monday ", " alpha@monday", "alpha @monday", "alpha@@monday", "a/b/c/d/e@monday", "alpha@" + strings.Repeat("m", 17), "\x00"} {
		out[fmt.Sprintf("Origin %q", origin)] = func(t *api.Tenant) { t.Sets[2].Origin = origin }
	}
	return out
}

func badSnaps() edits {
	out := edits{
		"17 snapshots":           func(t *api.Tenant) { t.Sets[3].Snaps = snapsOf(17) },
		"17 of the root":         func(t *api.Tenant) { t.Sets[0].Snaps = append(snapsOf(16), api.Snap{Name: "monday", Guid: 99}) },
		"Guid 0":                 func(t *api.Tenant) { t.Sets[0].Snaps[0].Guid = 0 },
		"Guids that fall":        func(t *api.Tenant) { t.Sets[1].Snaps[1].Guid = 1 },
		"a Guid twice":           func(t *api.Tenant) { t.Sets[1].Snaps[1].Guid = 2 },
		"the last Guid twice":    func(t *api.Tenant) { t.Sets[1].Snaps[2].Guid = 7 },
		"a Guid twice, apart":    func(t *api.Tenant) { t.Sets[1].Snaps[2].Guid = 2 },
		"a Name twice":           func(t *api.Tenant) { t.Sets[1].Snaps[1].Name = "monday" },
		"a Name twice, apart":    func(t *api.Tenant) { t.Sets[1].Snaps[2].Name = "monday" },
		"the last Name twice":    func(t *api.Tenant) { t.Sets[1].Snaps[2].Name = "friday" },
		"a snapshot of no name":  func(t *api.Tenant) { t.Sets[1].Snaps[2].Name = "" },
		"5 tags":                 func(t *api.Tenant) { t.Sets[1].Snaps[1].Tags = tagsOf(5) },
		"a tag that is empty":    func(t *api.Tenant) { t.Sets[1].Snaps[0].Tags = []string{""} },
		"tags that fall":         func(t *api.Tenant) { t.Sets[1].Snaps[1].Tags = []string{"b", "a"} },
		"tags that fall late":    func(t *api.Tenant) { t.Sets[1].Snaps[1].Tags = []string{"a", "b", "d", "c"} },
		"a tag twice":            func(t *api.Tenant) { t.Sets[1].Snaps[1].Tags = []string{"a", "a"} },
		"the last tag twice":     func(t *api.Tenant) { t.Sets[1].Snaps[1].Tags = []string{"a", "b", "c", "c"} },
		"the last snapshot's":    func(t *api.Tenant) { t.Sets[5].Snaps[1].Tags = []string{"b", "a"} },
		"a tag twice, apart":     func(t *api.Tenant) { t.Sets[1].Snaps[1].Tags = []string{"a", "b", "a"} },
		"a snapshot like a path": func(t *api.Tenant) { t.Sets[1].Snaps[2].Name = "b/c" },
	}
	for _, name := range noNames() {
		out[fmt.Sprintf("a snapshot %q", name)] = func(t *api.Tenant) { t.Sets[1].Snaps[2].Name = name }
		out[fmt.Sprintf("a tag %q", name)] = func(t *api.Tenant) { t.Sets[1].Snaps[2].Tags = []string{name} }
	}
	for _, n := range noAmounts() {
		out[fmt.Sprintf("Guid %d", n)] = func(t *api.Tenant) { t.Sets[0].Snaps[0].Guid = n }
		out[fmt.Sprintf("the last Guid %d", n)] = func(t *api.Tenant) { t.Sets[1].Snaps[2].Guid = n }
	}
	return out
}

func badStages() edits {
	out := edits{
		"5 stages":              func(t *api.Tenant) { t.Stages = stagesOf(5) },
		"stages that fall":      func(t *api.Tenant) { slices.Reverse(t.Stages) },
		"a stage twice":         func(t *api.Tenant) { t.Stages[1].Into = t.Stages[0].Into },
		"the last stage twice":  func(t *api.Tenant) { t.Stages = stagesOf(4); t.Stages[3].Into = t.Stages[2].Into },
		"a stage into the root": func(t *api.Tenant) { t.Stages[0].Into = "" },
		"a Begin of no name":    func(t *api.Tenant) { t.Stages[1].Begin.Name = "" },
		"a Begin like a path":   func(t *api.Tenant) { t.Stages[1].Begin.Name = "b/c" },
		"a Begin of Guid 0":     func(t *api.Tenant) { t.Stages[1].Begin.Guid = 0 },
		"a Begin with Data":     func(t *api.Tenant) { t.Stages[1].Begin.Data = "\x00" },
		"a Begin with 16":       func(t *api.Tenant) { t.Stages[1].Begin.Data = "0123456789abcdef" },
		"a Begin with a Sum's A": func(t *api.Tenant) {
			t.Stages[1].Begin.Sum.A = 1
		},
		"a Begin with a Sum's B": func(t *api.Tenant) { t.Stages[1].Begin.Sum.B = 1 << 63 },
		"a Begin with a Sum's C": func(t *api.Tenant) { t.Stages[0].Begin.Sum.C = 1 },
		"a Begin with a Sum's D": func(t *api.Tenant) { t.Stages[0].Begin.Sum.D = math.MaxUint64 },
		"a zero stage":           func(t *api.Tenant) { t.Stages[0] = api.Stage{Into: "a"} },
	}
	for _, n := range []int{0, 2, 3, 4, 5, -1, 1 << 32, 1<<32 + 1, math.MinInt, math.MaxInt} {
		out[fmt.Sprintf("a Begin of Kind %d", n)] = func(t *api.Tenant) { t.Stages[1].Begin.Kind = n }
	}
	for _, n := range []int{1, -1, maxAmount, math.MinInt, math.MaxInt} {
		out[fmt.Sprintf("a Begin of Index %d", n)] = func(t *api.Tenant) { t.Stages[1].Begin.Index = n }
		out[fmt.Sprintf("a Begin of Count %d", n)] = func(t *api.Tenant) { t.Stages[0].Begin.Count = n }
	}
	for _, path := range noPaths() {
		out[fmt.Sprintf("a stage into %q", path)] = func(t *api.Tenant) { t.Stages = t.Stages[:1]; t.Stages[0].Into = path }
	}
	for _, name := range noNames() {
		out[fmt.Sprintf("a Begin of %q", name)] = func(t *api.Tenant) { t.Stages[0].Begin.Name = name }
	}
	for _, n := range noAmounts() {
		out[fmt.Sprintf("a Begin from %d", n)] = func(t *api.Tenant) { t.Stages[0].Begin.From = n }
		out[fmt.Sprintf("a Begin of Guid %d", n)] = func(t *api.Tenant) { t.Stages[1].Begin.Guid = n }
		out[fmt.Sprintf("a stage at %d", n)] = func(t *api.Tenant) { t.Stages[0].At = n }
		out[fmt.Sprintf("a stage of Next %d", n)] = func(t *api.Tenant) { t.Stages[1].Next = n }
	}
	return out
}

func badLogs() edits {
	out := edits{
		"17 entries":           func(t *api.Tenant) { t.Log = make([]api.Entry, 17) },
		"an entry of two":      func(t *api.Tenant) { t.Log[0].User = "b/c" },
		"an entry at a's snap": func(t *api.Tenant) { t.Log[0].Path = "alpha@monday" },
	}
	for _, name := range noNames() {
		out[fmt.Sprintf("an entry of %q", name)] = func(t *api.Tenant) { t.Log[2].User = name }
	}
	for _, path := range noPaths() {
		out[fmt.Sprintf("an entry at %q", path)] = func(t *api.Tenant) { t.Log[1].Path = path }
	}
	for _, n := range noAmounts() {
		out[fmt.Sprintf("an entry of Kind %d", n)] = func(t *api.Tenant) { t.Log[0].Kind = n }
		out[fmt.Sprintf("an entry of Err %d", n)] = func(t *api.Tenant) { t.Log[2].Err = api.Errno(n) }
	}
	return out
}

// badParts: contents and properties that may not be, wherever such stand.
func badParts() edits {
	bodies := map[string][]api.Block{
		"an index below 0":      {{Index: -1, Data: "0123456789abcdef"}},
		"an index of 1024":      content(1, 1024),
		"an index of MinInt":    {{Index: math.MinInt, Data: "0123456789abcdef"}},
		"indexes that fall":     content(2, 1),
		"an index twice":        content(1, 1),
		"data of 15 octets":     {{Data: "0123456789abcde"}},
		"data of 17 octets":     {{Data: "0123456789abcdefg"}},
		"no data":               {{}},
		"a last block of 0":     append(content(1, 2), api.Block{Index: 3}),
		"a last index too high": content(1, 2, 2048),
	}
	props := map[string][]api.Prop{
		"9 properties":          ownOf(9),
		"names that fall":       own("b=1", "a=1"),
		"a name twice":          own("a=1", "a=2"),
		"no name":               own("=1"),
		"a name like a path":    own("a/b=1"),
		"a great letter":        own("A=1"),
		"a name of 17":          own(strings.Repeat("a", 17) + "=1"),
		"a value of 33 octets":  own("a=" + strings.Repeat("v", 33)),
		"a value with a tab":    own("a=\t"),
		"a value with octet 31": own("a=\x1f"),
		"a value with 127":      own("a=\x7f"),
		"a value with 128":      own("a=\x80"),
		"a last one of none":    own("a=1", "b=1", "="),
	}
	out := edits{}
	for what, l := range bodies {
		out["the root's body: "+what] = func(t *api.Tenant) { t.Sets[0].Body = l }
		out["the last body: "+what] = func(t *api.Tenant) { t.Sets[5].Body = l }
		out["a snapshot's body: "+what] = func(t *api.Tenant) { t.Sets[0].Snaps[0].Body = l }
		out["the last snapshot's: "+what] = func(t *api.Tenant) { t.Sets[5].Snaps[1].Body = l }
		out["a stage's body: "+what] = func(t *api.Tenant) { t.Stages[0].Body = l }
		out["the last stage's body: "+what] = func(t *api.Tenant) { t.Stages[1].Body = l }
	}
	for what, l := range props {
		out["the root's own: "+what] = func(t *api.Tenant) { t.Sets[0].Own = l }
		out["the last own: "+what] = func(t *api.Tenant) { t.Sets[5].Own = l }
		out["a snapshot's own: "+what] = func(t *api.Tenant) { t.Sets[0].Snaps[0].Own = l }
		out["the last one's own: "+what] = func(t *api.Tenant) { t.Sets[5].Snaps[1].Own = l }
		out["a Begin's own: "+what] = func(t *api.Tenant) { t.Stages[0].Begin.Own = l }
		out["the last Begin's own: "+what] = func(t *api.Tenant) { t.Stages[1].Begin.Own = l }
	}
	return out
}

// tenants: those that may be and those that may not, by what they are called.
func tenants() map[string]api.Tenant {
	out := map[string]api.Tenant{"zero": {}, "alone": alone(), "filled": filled(2)}
	for what, do := range goodEdits() {
		out[what] = onto(full(), do)
	}
	for what, do := range badEdits() {
		if out[what].Name != "" {
			panic("two edits are called " + what)
		}
		out[what] = onto(full(), do)
	}
	return out
}

func mustCheck(t *testing.T, what string, x api.Tenant, want api.Errno) {
	t.Helper()
	if told := wantCheck(x); told != want {
		t.Fatalf("%s: the test's own words tell %v, not %v", what, told, want)
	}
	if got := tree.Check(x); got != want {
		t.Errorf("Check of %s: %v, want %v", what, got, want)
	}
}

// P14.1: Check

func TestCheck(t *testing.T) {
	mustCheck(t, "alone", alone(), api.OK)
	mustCheck(t, "zero", api.Tenant{}, api.ErrState)
	mustCheck(t, "filled", filled(2), api.ErrState)
	for what, do := range goodEdits() {
		mustCheck(t, what, onto(full(), do), api.OK)
	}
	for what, do := range badEdits() {
		mustCheck(t, what, onto(full(), do), api.ErrState)
	}
}

// TestCheckTwoFaults: nothing mends another fault.
func TestCheckTwoFaults(t *testing.T) {
	r := rand.New(rand.NewSource(141))
	bad := slices.Sorted(maps.Keys(badHeads()))
	other := slices.Sorted(maps.Keys(badLogs()))
	for range 500 {
		a, b := bad[r.Intn(len(bad))], other[r.Intn(len(other))]
		x := onto(full(), badHeads()[a])
		mustCheck(t, a+" and "+b, onto(x, badLogs()[b]), api.ErrState)
	}
}

// edges: what is put in the place of each number and text.
var (
	numberEdges = []int{math.MinInt, -maxAmount, -1, 0, 1, 2, 3, 4, 5, 7, 8, 80, 81, 255, 256, 1023, 1024, maxAmount - 1, maxAmount, maxAmount + 1, math.MaxInt}
	textEdges   = []string{"", "a", "alpha", "alpha/one", "beta", "beta/one", "zeta", "monday", "friday", "alpha@monday", "alpha@friday", "beta@old", "@monday", "@", "a b", "A", "/", "a/b/c/d", "a/b/c/d/e", "0123456789abcdef", "0123456789abcdefg", "value, of 22 octets ~!", "\x00", "\xff", "keep", "x"}
)

// TestCheckEachLeaf: Check is what the words alone tell, with each number and
// text of a tenant changed to each edge, one at a time.
func TestCheckEachLeaf(t *testing.T) {
	good := 0
	for i := range leaves(new(full())) {
		for _, to := range numberEdges {
			x := full()
			leaf := leaves(&x)[i]
			if !leaf.CanInt() {
				break
			}
			leaf.SetInt(int64(to))
			good += mustBeTold(t, i, to, x)
		}
		for _, to := range textEdges {
			x := full()
			leaf := leaves(&x)[i]
			if leaf.Kind().String() != "string" {
				break
			}
			leaf.SetString(to)
			good += mustBeTold(t, i, to, x)
		}
	}
	if good < 300 {
		t.Errorf("only %d tenants of those may be", good)
	}
}

// mustBeTold: 1, if the tenant may be.
func mustBeTold(t *testing.T, leaf int, to any, x api.Tenant) int {
	t.Helper()
	want := wantCheck(x)
	if got := tree.Check(x); got != want {
		t.Fatalf("Check with leaf %d changed to %v: %v, want %v", leaf, to, got, want)
	}
	if want == api.OK {
		return 1
	}
	return 0
}

// TestCheckEachElement: likewise with each element of each list dropped, or
// doubled, or changed with the next one.
func TestCheckEachElement(t *testing.T) {
	x := full()
	for i, l := range slicesOf(&x) {
		for at := range l.Len() {
			for what, do := range elementEdits {
				y := full()
				do(slicesOf(&y)[i], at)
				want := wantCheck(y)
				if got := tree.Check(y); got != want {
					t.Fatalf("Check with element %d of list %d %s: %v, want %v", at, i, what, got, want)
				}
			}
		}
	}
}

// TestCheckMany: of tenants made by chance, all may be; with one leaf or list
// changed by chance Check is what the words alone tell.
func TestCheckMany(t *testing.T) {
	r := rand.New(rand.NewSource(142))
	met := map[api.Errno]int{}
	for range 3000 {
		x := some(r)
		mustCheck(t, "some", x, api.OK)
		breakOne(r, &x)
		want := wantCheck(x)
		met[want]++
		if got := tree.Check(x); got != want {
			t.Fatalf("Check of %v: %v, want %v", x, got, want)
		}
	}
	if met[api.OK] < 300 || met[api.ErrState] < 300 {
		t.Errorf("too few of one kind: %v", met)
	}
}

// P14.1: New

func TestNew(t *testing.T) {
	for _, name := range []string{"t", "-", "_", "0", "9z", "tenant-1", longestName} {
		for _, quota := range []int{1, 2, 20, maxAmount - 1, maxAmount} {
			x, err := tree.New(name, quota)
			want := api.Tenant{Name: name, Quota: quota, Next: 1, Sets: []api.Set{{}}}
			if err != api.OK || !one(x, want) {
				t.Errorf("New(%q, %d): %v, %v", name, quota, x, err)
			}
			mustCheck(t, "New", x, api.OK)
		}
	}
}

// TestNewErrors: several faults at once, in the order in which the chapter
// names them.
func TestNewErrors(t *testing.T) {
	mustRefuse := func(name string, quota int, want api.Errno) {
		t.Helper()
		if x, err := tree.New(name, quota); err != want || !one(x, api.Tenant{}) {
			t.Errorf("New(%q, %d): %v, %v, want %v", name, quota, x, err, want)
		}
	}
	for _, name := range append(noNames(), "", "a/b", "/") {
		for _, quota := range append(noAmounts(), 0, 1, maxAmount) {
			mustRefuse(name, quota, api.ErrName)
		}
	}
	for _, name := range []string{"t", longestName} {
		for _, quota := range noAmounts() {
			mustRefuse(name, quota, api.ErrRange)
		}
		mustRefuse(name, 0, api.ErrQuota)
	}
}

// TestExample: the chapter's.
func TestExample(t *testing.T) {
	x, err := tree.New("t", 20)
	if err != api.OK || len(x.Sets) != 1 || x.Sets[0].Path != "" || tree.Find(x, "") != 0 {
		t.Errorf("New: %v, %v", x, err)
	}
}
