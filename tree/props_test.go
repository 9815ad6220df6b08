package tree_test

import (
	"fmt"
	"maps"
	"math/rand"
	"slices"
	"strings"
	"testing"

	"godown/api"
	"godown/tree"
)

// P14.2: Props

// onTheWay: the paths from the root to path; of what is no path that alone.
func onTheWay(path string) []string {
	if !pathPattern.MatchString(path) || path == "" {
		return []string{path}
	}
	out := []string{""}
	for i, c := range path + "/" {
		if c == '/' {
			out = append(out, path[:i])
		}
	}
	return out
}

// wantProps: of each name what the last list says that has it.
func wantProps(t api.Tenant, path string) ([]api.Prop, api.Errno) {
	if wantFind(t, path) < 0 {
		return nil, api.ErrNone
	}
	values := map[string]string{}
	var w words
	for _, p := range onTheWay(path) {
		if at := wantFind(t, p); at >= 0 {
			w.own(t.Sets[at].Own)
			for _, own := range t.Sets[at].Own {
				values[own.Name] = own.Value
			}
		}
	}
	if w.broken {
		return nil, api.ErrState
	}
	if len(values) > maxProps {
		return nil, api.ErrCount
	}
	var out []api.Prop
	for _, name := range slices.Sorted(maps.Keys(values)) {
		out = append(out, api.Prop{Name: name, Value: values[name]})
	}
	return out, api.OK
}

func mustProps(t *testing.T, what string, x api.Tenant, path string) {
	t.Helper()
	want, wantErr := wantProps(x, path)
	got, err := tree.Props(x, path)
	if err != wantErr || !slices.Equal(got, want) || err != api.OK && got != nil {
		t.Errorf("%s: Props(%q): %v, %v, want %v, %v", what, path, got, err, want, wantErr)
	}
}

// mustHave: Props, each told as name=value, or its error.
func mustHave(t *testing.T, x api.Tenant, path string, want string) {
	t.Helper()
	l, err := tree.Props(x, path)
	var told []string
	for _, p := range l {
		told = append(told, p.Name+"="+p.Value)
	}
	got := strings.Join(told, " ")
	if err != api.OK {
		got = fmt.Sprintf("error %d", err) + got
	}
	if got != want {
		t.Errorf("Props(%q): %s, want %s", path, got, want)
	}
}

// noSet: as mustHave tells it.
var (
	noSet    = fmt.Sprintf("error %d", api.ErrNone)
	mayNotBe = fmt.Sprintf("error %d", api.ErrState)
	tooMany  = fmt.Sprintf("error %d", api.ErrCount)
)

func TestProps(t *testing.T) {
	for path, want := range map[string]string{
		"":                         "atime=on copies=1",
		"alpha":                    "atime=on copies=2",
		"alpha/one":                "atime=on copies=2",
		"alpha/one/two":            "atime=on copies=2 quota=none",
		"alpha/one/two/three":      "atime=relative copies=2 quota=none z=1",
		"beta":                     "atime=on copies=1", // not as its Origin, nor as its snapshots have them
		"gamma":                    noSet,
		"alpha/":                   noSet,
		"/":                        noSet,
		"Alpha":                    noSet,
		"alpha/two":                noSet,
		"alpha/one/two/three/four": noSet,
		"alpha@monday":             noSet,
		"new/one":                  noSet, // a stage's
		"gone/away":                noSet, // a grant's
	} {
		mustHave(t, full(), path, want)
	}
	mustHave(t, alone(), "", "")
	mustHave(t, alone(), "a", noSet)
	mustHave(t, api.Tenant{}, "", noSet)
	mustHave(t, api.Tenant{}, "a", noSet)
}

// with: a set with such properties.
func with(path string, l ...string) api.Set {
	return api.Set{Path: path, Own: own(l...)}
}

// TestPropsOnTheWay: sets that are not there count for nothing, nor do those
// that are not on the way.
func TestPropsOnTheWay(t *testing.T) {
	every := map[string]api.Set{
		"":        with("", "a=0", "b=0", "c=0", "d=0", "e=0"),
		"a":       with("a", "a=1", "b=1", "c=1", "d=1"),
		"a/b":     with("a/b", "a=2", "b=2", "c=2"),
		"a/b/c":   with("a/b/c", "a=3", "b=3"),
		"a/b/c/d": with("a/b/c/d", "a=4"),
	}
	way := []string{"", "a", "a/b", "a/b/c", "a/b/c/d"}
	beside := []api.Set{with("a-", "a=5", "x=5"), with("a/b-", "a=5", "x=5"), with("a/bb", "b=5", "x=5"), with("a/b/c/", "c=5"), with("a/b/c/e", "a=5", "f=5"), with("b", "e=5"), with("/", "e=5"), with("d", "x=5")}
	for kept := range 1 << 4 {
		x := api.Tenant{Sets: slices.Clone(beside)}
		want := map[string]string{}
		for i, path := range way {
			if i == 4 || kept>>i&1 == 1 {
				x.Sets = append(x.Sets, every[path])
				for _, p := range every[path].Own {
					want[p.Name] = p.Value
				}
			}
		}
		var told []string
		for _, name := range slices.Sorted(maps.Keys(want)) {
			told = append(told, name+"="+want[name])
		}
		mustHave(t, x, "a/b/c/d", strings.Join(told, " "))
		for i, path := range way {
			if i < 4 && kept>>i&1 == 0 {
				mustHave(t, x, path, noSet)
			}
			mustProps(t, "on the way", x, path)
		}
	}
}

// TestPropsOfNoPath: its own alone, even if the sets ahead of its last / are
// there.
func TestPropsOfNoPath(t *testing.T) {
	for _, path := range noPaths() {
		x := api.Tenant{Sets: []api.Set{with("", "a=0", "r=0"), with("b", "a=1"), with("b/c", "a=2"), with("a/b/c/d", "d=1"), with("a/b/c", "d=1"), with(path, "a=3", "own=1")}}
		if i := strings.LastIndexByte(path, '/'); i > 0 {
			x.Sets = append(x.Sets, with(path[:i], "a=4", "above=1"))
		}
		mustHave(t, x, path, "a=3 own=1")
	}
	// Five names: the four ahead are a path.
	x := api.Tenant{Sets: append(deepest("a/b/c/d/e"), with("f", "a=1"))}
	x.Sets[0].Own, x.Sets[4].Own, x.Sets[5].Own = own("r=1"), own("d=1"), own("e=1")
	mustHave(t, x, "a/b/c/d/e", "e=1")
	mustHave(t, x, "a/b/c/d", "d=1 r=1")
}

// TestPropsTwice: of sets of one path the first counts, its own as well as on
// the way.
func TestPropsTwice(t *testing.T) {
	x := api.Tenant{Sets: []api.Set{with("a/b", "k=1"), with("a", "a=1"), with("", "r=1"), with("a", "a=2", "b=2"), with("a/b", "k=2", "l=2"), with("", "r=2", "s=2")}}
	mustHave(t, x, "a/b", "a=1 k=1 r=1")
	mustHave(t, x, "a", "a=1 r=1")
	mustHave(t, x, "", "r=1")
}

// TestPropsErrors: no such set goes ahead of a list that may not be, and that
// ahead of too many names.
func TestPropsErrors(t *testing.T) {
	eight, bad := with("", "a=", "b=", "c=", "d=", "e=", "f=", "g=", "h="), own("a=1", "a=2")
	x := api.Tenant{Sets: []api.Set{eight, with("a", "h=1"), with("a/b", "a=1", "i=1"), with("a/b/c", "a=2"), with("b", "i=1")}}
	mustHave(t, x, "", "a= b= c= d= e= f= g= h=")
	mustHave(t, x, "a", "a= b= c= d= e= f= g= h=1")
	mustHave(t, x, "a/b", tooMany)
	mustHave(t, x, "a/b/c", tooMany) // what stands above counts
	mustHave(t, x, "b", tooMany)
	mustHave(t, x, "c", noSet)

	x.Sets[3].Own = bad
	mustHave(t, x, "a/b/c", mayNotBe)
	mustHave(t, x, "a/b", tooMany)
	mustHave(t, x, "a", "a= b= c= d= e= f= g= h=1")
	mustHave(t, x, "a/b/c/d", noSet)

	x.Sets[0].Own = ownOf(9)
	for _, path := range []string{"", "a", "a/b", "a/b/c", "b"} {
		mustHave(t, x, path, mayNotBe)
	}
	mustHave(t, x, "c", noSet)
	mustHave(t, x, "", mayNotBe)

	x.Sets[0].Own, x.Sets[1].Own, x.Sets[3].Own = nil, bad, nil
	for _, path := range []string{"a", "a/b", "a/b/c"} {
		mustHave(t, x, path, mayNotBe)
	}
	mustHave(t, x, "b", "i=1")
	mustHave(t, x, "", "")
}

// TestPropsOfWhatMayNotBe: nothing of a tenant counts but the sets on the way,
// their paths and their own.
func TestPropsOfWhatMayNotBe(t *testing.T) {
	for what, x := range tenants() {
		if len(x.Sets) > 40 {
			continue
		}
		paths, _ := asks(x)
		for _, path := range paths {
			mustProps(t, what, x, path)
		}
	}
}

// TestPropsAreHadFromAbove: a set has each property of its own, and else what
// the one that it stands under has.
func TestPropsAreHadFromAbove(t *testing.T) {
	r := rand.New(rand.NewSource(145))
	met := map[api.Errno]int{}
	for range 600 {
		x := some(r)
		for _, s := range x.Sets {
			got, err := tree.Props(x, s.Path)
			met[err]++
			above := map[string]string{}
			aboveErr := api.OK
			if s.Path != "" {
				var had []api.Prop
				had, aboveErr = tree.Props(x, s.Path[:max(strings.LastIndexByte(s.Path, '/'), 0)])
				for _, p := range had {
					above[p.Name] = p.Value
				}
			}
			for _, p := range s.Own {
				above[p.Name] = p.Value
			}
			if aboveErr != api.OK || len(above) > maxProps {
				if err != api.ErrCount || got != nil {
					t.Fatalf("Props(%q) of too many: %v, %v", s.Path, got, err)
				}
				continue
			}
			if err != api.OK || len(got) != len(above) || !slices.IsSortedFunc(got, func(a, b api.Prop) int { return strings.Compare(a.Name, b.Name) }) {
				t.Fatalf("Props(%q): %v, %v, want %v", s.Path, got, err, above)
			}
			for _, p := range got {
				if value, is := above[p.Name]; !is || value != p.Value {
					t.Fatalf("Props(%q): %v, want %v", s.Path, got, above)
				}
			}
		}
	}
	if met[api.OK] < 1000 || met[api.ErrCount] < 100 {
		t.Errorf("too few of one kind: %v", met)
	}
}

func TestPropsMany(t *testing.T) {
	r := rand.New(rand.NewSource(146))
	for range 800 {
		x := some(r)
		for range r.Intn(3) {
			breakOne(r, &x)
		}
		paths, _ := asks(x)
		for _, path := range paths {
			mustProps(t, "some", x, path)
		}
	}
}
