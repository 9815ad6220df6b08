package tree_test

import (
	"math/rand"
	"slices"
	"strings"
	"testing"

	"godown/api"
	"godown/tree"
)

// P14.1: Find, Snap, Kids, Clones

// parts: of a path; the root has none.
func parts(path string) []string {
	return strings.FieldsFunc(path, func(r rune) bool { return r == '/' })
}

// wantKids: those whose path has just one part more.
func wantKids(t api.Tenant, path string) []string {
	var out []string
	for _, s := range t.Sets {
		above, all := parts(path), parts(s.Path)
		if pathPattern.MatchString(path) && pathPattern.MatchString(s.Path) && len(all) == len(above)+1 && slices.Equal(all[:len(above)], above) {
			out = append(out, s.Path)
		}
	}
	return out
}

// wantClones: those whose Origin is of the form, with these two.
func wantClones(t api.Tenant, path, name string) []string {
	var out []string
	for _, s := range t.Sets {
		if told := snapPattern.FindStringSubmatch(s.Origin); told != nil && told[1] == path && (told[2] == name || name == "") {
			out = append(out, s.Path)
		}
	}
	return out
}

// wantFind: all paths that stand ahead of the place are others.
func wantFind(t api.Tenant, path string) int {
	for i, s := range t.Sets {
		if s.Path == path {
			return i
		}
	}
	return -1
}

func wantSnap(s api.Set, name string) int {
	for i, n := range s.Snaps {
		if n.Name == name {
			return i
		}
	}
	return -1
}

// mustLook: all that is looked for in a tenant.
func mustLook(t *testing.T, what string, x api.Tenant, path, name string) {
	t.Helper()
	if got, want := tree.Find(x, path), wantFind(x, path); got != want {
		t.Errorf("%s: Find(%q): %d, want %d", what, path, got, want)
	}
	if got, want := tree.Kids(x, path), wantKids(x, path); !slices.Equal(got, want) {
		t.Errorf("%s: Kids(%q): %q, want %q", what, path, got, want)
	}
	if got, want := tree.Clones(x, path, name), wantClones(x, path, name); !slices.Equal(got, want) {
		t.Errorf("%s: Clones(%q, %q): %q, want %q", what, path, name, got, want)
	}
	for _, s := range x.Sets {
		if got, want := tree.Snap(s, name), wantSnap(s, name); got != want {
			t.Errorf("%s: Snap of %q, %q: %d, want %d", what, s.Path, name, got, want)
		}
	}
}

func TestFind(t *testing.T) {
	for path, want := range map[string]int{
		"": 0, "alpha": 1, "alpha/one": 2, "alpha/one/two": 3, "alpha/one/two/three": 4, "beta": 5,
		"alph": -1, "alpha/": -1, "alpha/o": -1, "alphaa": -1, "/": -1, "Alpha": -1, "gamma": -1, "one": -1, "monday": -1, "alpha@monday": -1, "new/one": -1, "alpha/one/two/three/four": -1,
	} {
		if got := tree.Find(full(), path); got != want {
			t.Errorf("Find(%q): %d, want %d", path, got, want)
		}
	}
	for i := range 32 {
		if x := flat(32); tree.Find(x, x.Sets[i].Path) != i {
			t.Errorf("Find of the set at %d of 32", i)
		}
	}
	if tree.Find(alone(), "") != 0 || tree.Find(alone(), "a") != -1 || tree.Find(api.Tenant{}, "") != -1 {
		t.Error("Find of the root alone, or of none")
	}
}

// TestFindTwice: the first counts, and what is no path is found where it
// stands.
func TestFindTwice(t *testing.T) {
	x := api.Tenant{Sets: setsAt("b", "a/b", "A", "b", "", "a//", "a/b", "")}
	for path, want := range map[string]int{"b": 0, "a/b": 1, "A": 2, "": 4, "a//": 5, "a": -1} {
		if got := tree.Find(x, path); got != want {
			t.Errorf("Find(%q): %d, want %d", path, got, want)
		}
	}
}

func TestSnap(t *testing.T) {
	x := full()
	for i, want := range []map[string]int{
		{"monday": 0, "friday": -1, "": -1},
		{"monday": 0, "friday": 1, "again": 2, "old": -1, "": -1, "keep": -1, "mon": -1, "mondays": -1, "Monday": -1, "@monday": -1, "alpha@monday": -1},
		{"friday": 0, "monday": -1},
		{"friday": -1, "": -1},
		{"old": -1},
		{"old": 0, "new": 1, "t": -1},
	} {
		for name, place := range want {
			if got := tree.Snap(x.Sets[i], name); got != place {
				t.Errorf("Snap of %q, %q: %d, want %d", x.Sets[i].Path, name, got, place)
			}
		}
	}
	for i, n := range snapsOf(16) {
		if tree.Snap(api.Set{Snaps: snapsOf(16)}, n.Name) != i {
			t.Errorf("Snap of the one at %d of 16", i)
		}
	}
}

// TestSnapTwice: the first counts, and what is no name is found where it
// stands.
func TestSnapTwice(t *testing.T) {
	s := api.Set{Snaps: []api.Snap{{Name: "b"}, {Name: "A@"}, {Name: "b", Guid: 1}, {}, {Name: "A@"}, {}}}
	for name, want := range map[string]int{"b": 0, "A@": 1, "": 3, "c": -1} {
		if got := tree.Snap(s, name); got != want {
			t.Errorf("Snap of %q: %d, want %d", name, got, want)
		}
	}
	if tree.Snap(api.Set{}, "") != -1 {
		t.Error("Snap of none")
	}
}

func TestKids(t *testing.T) {
	x := onto(full(), func(t *api.Tenant) {
		t.Sets = setsAt("", "a", "a-", "a-/x", "a/b", "a/b-c", "a/b/c", "a/b/c/d", "a/b/c/e", "a/c", "a0", "ab", "ab/b", "b")
	})
	mustCheck(t, "kids", x, api.OK)
	for path, want := range map[string][]string{
		"":        {"a", "a-", "a0", "ab", "b"},
		"a":       {"a/b", "a/b-c", "a/c"},
		"a-":      {"a-/x"},
		"a/b":     {"a/b/c"},
		"a/b-c":   nil,
		"a/b/c":   {"a/b/c/d", "a/b/c/e"},
		"a/b/c/d": nil,
		"a0":      nil,
		"ab":      {"ab/b"},
		"b":       nil,
		"c":       nil, // which is not there
		"a/":      nil, // which is no path
		"/":       nil,
		"A":       nil,
		"a/b/c/":  nil,
	} {
		if got := tree.Kids(x, path); !slices.Equal(got, want) {
			t.Errorf("Kids(%q): %q, want %q", path, got, want)
		}
	}
	if tree.Kids(alone(), "") != nil || tree.Kids(api.Tenant{}, "") != nil {
		t.Error("Kids of the root alone, or of none")
	}
}

// TestKidsOfWhatMayNotBe: in the sets' order; what is no path has no parent.
func TestKidsOfWhatMayNotBe(t *testing.T) {
	x := api.Tenant{Sets: setsAt("b", "a/c", "a/b", "/", "a/", "/a", "", "a/b", "a/B", "A/b", "a/b/c/d/e", "", "a/b/c/d", "a//b")}
	for path, want := range map[string][]string{
		"":        {"b"},
		"a":       {"a/c", "a/b", "a/b"},
		"A":       nil,
		"a/":      nil,
		"/":       nil,
		"a/b/c":   {"a/b/c/d"},
		"a/b/c/d": nil,
	} {
		if got := tree.Kids(x, path); !slices.Equal(got, want) {
			t.Errorf("Kids(%q): %q, want %q", path, got, want)
		}
	}
}

func TestClones(t *testing.T) {
	x := full()
	for _, ask := range []struct {
		path, name string
		want       []string
	}{
		{"", "monday", []string{"alpha"}},
		{"", "", []string{"alpha"}},
		{"", "friday", nil},
		{"alpha", "monday", []string{"alpha/one", "beta"}},
		{"alpha", "friday", nil},
		{"alpha", "", []string{"alpha/one", "beta"}},
		{"beta", "old", []string{"alpha/one/two/three"}},
		{"beta", "new", nil},
		{"beta", "", []string{"alpha/one/two/three"}},
		{"alpha/one", "", nil}, // has a snapshot, and no clones
		{"alpha/one", "friday", nil},
		{"alpha/one/two", "", nil}, // has no Origin, and none is its
		{"alpha/one/two", "monday", nil},
		{"gamma", "", nil}, // is not there
		{"gamma", "monday", nil},
		{"alpha@monday", "", nil},
		{"alpha", "monda", nil},
		{"alpha", "mondays", nil},
		{"alpha", "@monday", nil},
		{"alph", "monday", nil},
		{"alpha/", "monday", nil},
		{"", "alpha@monday", nil},
	} {
		if got := tree.Clones(x, ask.path, ask.name); !slices.Equal(got, ask.want) {
			t.Errorf("Clones(%q, %q): %q, want %q", ask.path, ask.name, got, ask.want)
		}
	}
}

// TestClonesOfWhatMayNotBe: an Origin counts by what it says alone, if it is of
// the form.
func TestClonesOfWhatMayNotBe(t *testing.T) {
	var x api.Tenant
	for i, origin := range []string{"", "@", "@m", "a", "a@", "a@m", "A@m", "a@M", "a@m@n", "a@@m", "a/@m", "a@m", "a@n", "/@m", "a@m/n", "b@m", "a/b@m", "a/b/c/d/e@m"} {
		x.Sets = append(x.Sets, api.Set{Path: string(rune('A' + i)), Origin: origin})
	}
	for _, ask := range []struct {
		path, name string
		want       []string
	}{
		{"", "", []string{"C"}},
		{"", "m", []string{"C"}},
		{"", "@m", nil},
		{"a", "", []string{"F", "L", "M"}},
		{"a", "m", []string{"F", "L"}},
		{"a", "n", []string{"M"}},
		{"a", "M", nil},
		{"a", "m@n", nil},
		{"a@m", "n", nil},
		{"a", "@m", nil},
		{"a@", "m", nil},
		{"A", "m", nil},
		{"A", "", nil},
		{"a/", "", nil},
		{"/", "m", nil},
		{"a", "m/n", nil},
		{"b", "m", []string{"P"}},
		{"a/b", "", []string{"Q"}},
		{"a/b/c/d/e", "", nil},
	} {
		if got := tree.Clones(x, ask.path, ask.name); !slices.Equal(got, ask.want) {
			t.Errorf("Clones(%q, %q): %q, want %q", ask.path, ask.name, got, ask.want)
		}
	}
}

// asks: paths and names to look for: those of the tenant, and others.
func asks(x api.Tenant) (paths, snaps []string) {
	paths = []string{"", "/", "a", "a/", "A", "gamma", "alpha/on", "a b", "a/b/c/d/e", "alpha@monday", "\xff"}
	snaps = []string{"", "monday", "m", "@", "A", "gone", "a/b", "\xff"}
	for _, s := range x.Sets {
		paths = append(paths, s.Path, s.Path+"/", s.Path+"a")
		if path, name, found := strings.Cut(s.Origin, "@"); found {
			paths, snaps = append(paths, path), append(snaps, name)
		}
		for _, n := range s.Snaps {
			snaps = append(snaps, n.Name)
		}
	}
	for _, l := range []*[]string{&paths, &snaps} {
		slices.Sort(*l)
		*l = slices.Compact(*l)
	}
	return paths, snaps
}

// TestLookEverywhere: in each tenant for all of its paths and names.
func TestLookEverywhere(t *testing.T) {
	for what, x := range tenants() {
		if len(x.Sets) > 40 {
			continue
		}
		paths, snaps := asks(x)
		for i, path := range paths {
			mustLook(t, what, x, path, snaps[i%len(snaps)])
		}
		for i, name := range snaps {
			mustLook(t, what, x, paths[i%len(paths)], name)
		}
	}
	for path := range tenants() {
		mustLook(t, "full", full(), path, path) // what no text of a tenant is
	}
}

// TestLookMany: in tenants made by chance, some of which may not be.
func TestLookMany(t *testing.T) {
	r := rand.New(rand.NewSource(143))
	for range 400 {
		x := some(r)
		for range r.Intn(3) {
			breakOne(r, &x)
		}
		paths, snaps := asks(x)
		for _, path := range paths {
			mustLook(t, "some", x, path, pick(r, snaps))
			mustLook(t, "some", x, path, "")
		}
	}
}
