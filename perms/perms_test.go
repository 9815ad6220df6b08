package perms_test

import (
	"fmt"
	"math"
	"math/rand"
	"regexp"
	"slices"
	"strconv"
	"strings"
	"testing"

	"godown/api"
	"godown/perms"
)

// maxGrants and allRights: as the document writes them.
const (
	maxGrants = 16
	allRights = 255
)

// bits: the rights, each by itself.
var bits = []int{1, 2, 4, 8, 16, 32, 64, 128}

// The document's words, as patterns.
var (
	namePattern = regexp.MustCompile(`\A[a-z0-9_-]{1,16}\z`)
	pathPattern = regexp.MustCompile(`\A([a-z0-9_-]{1,16}(/[a-z0-9_-]{1,16}){0,3})?\z`)
)

// wantCheck: how many, each by itself, then each with all those ahead of it.
func wantCheck(l []api.Grant) api.Errno {
	if len(l) > maxGrants {
		return api.ErrState
	}
	for i, g := range l {
		if !namePattern.MatchString(g.User) || !pathPattern.MatchString(g.Path) || g.Perms < 1 || g.Perms > allRights {
			return api.ErrState
		}
		for _, ahead := range l[:i] {
			if ahead.User > g.User || ahead.User == g.User && ahead.Path >= g.Path {
				return api.ErrState
			}
		}
	}
	return api.OK
}

// parts: of a path; the root has none.
func parts(path string) []string {
	return strings.FieldsFunc(path, func(r rune) bool { return r == '/' })
}

// beneath: whether path's first parts are from's.
func beneath(path, from string) bool {
	if !pathPattern.MatchString(path) || !pathPattern.MatchString(from) {
		return false
	}
	p, f := parts(path), parts(from)
	return len(p) >= len(f) && slices.Equal(p[:len(f)], f)
}

// has: whether the number has the bit, told by halving.
func has(n int, bit int) bool {
	for ; bit > 1; bit /= 2 {
		n = (n - n&1) / 2
	}
	return n&1 == 1
}

// wantOf: bit by bit, whether there is a grant that gives it.
func wantOf(l []api.Grant, user, path string) int {
	if user == "" {
		return allRights
	}
	var giving []api.Grant
	for _, g := range l {
		if g.User == user && namePattern.MatchString(user) && beneath(path, g.Path) {
			giving = append(giving, g)
		}
	}
	rights := 0
	for _, bit := range bits {
		if slices.ContainsFunc(giving, func(g api.Grant) bool { return has(g.Perms, bit) }) {
			rights += bit
		}
	}
	return rights
}

// wantMay: whether each bit of need is given.
func wantMay(l []api.Grant, user, path string, need int) bool {
	if need < 0 || need > allRights {
		return false
	}
	rights := wantOf(l, user, path)
	for _, bit := range bits {
		if has(need, bit) && !has(rights, bit) {
			return false
		}
	}
	return true
}

// list: grants, each told as user:path:rights.
func list(l ...string) []api.Grant {
	var out []api.Grant
	for _, s := range l {
		told := strings.Split(s, ":")
		rights, err := strconv.Atoi(told[2])
		if err != nil {
			panic(err)
		}
		out = append(out, api.Grant{User: told[0], Path: told[1], Perms: rights})
	}
	return out
}

// span: n grants, of the users b, d and on, each second letter, from four paths
// each, so that others fit ahead, between and behind.
func span(n int) []api.Grant {
	var out []api.Grant
	for i := range n {
		user := string(rune('b' + 2*(i/4)))
		path := []string{"", "c", "c/b", "e"}[i%4]
		out = append(out, api.Grant{User: user, Path: path, Perms: 1 + i*50%allRights})
	}
	return out
}

// sorted: the grants by User, then Path.
func sorted(l []api.Grant) []api.Grant {
	out := slices.Clone(l)
	slices.SortFunc(out, func(a, b api.Grant) int {
		if c := strings.Compare(a.User, b.User); c != 0 {
			return c
		}
		return strings.Compare(a.Path, b.Path)
	})
	return out
}

var (
	longestName = strings.Repeat("b", 16)
	longestPath = strings.Repeat("/"+longestName, 4)[1:]
)

// good: grants that may be.
func good() map[string][]api.Grant {
	eachBit := span(8)
	for i, bit := range bits {
		eachBit[i].Perms = bit
	}
	return map[string][]api.Grant{
		"none":                     nil,
		"one":                      list("c:a:7"),
		"one from the root":        list("c::7"),
		"one of all rights":        list("c:a/b/c/d:255"),
		"two users from one path":  list("b:a:1", "c:a:2"),
		"one user from two paths":  list("b:a:1", "b:b:2"),
		"one path beneath another": list("b::1", "b:a:2", "b:a/b:4", "b:a/b/c:8", "b:a/b/c/d:16"),
		"paths that begin alike":   list("b:a:1", "b:a-:2", "b:a-b:4", "b:a/b:8", "b:a/b-:16", "b:a/b/c:32", "b:a0:64", "b:a_:128", "b:aa:3", "b:aa/b:5"),
		"users that begin alike":   list("b:z:1", "b-:a:2", "b-b::4", "b0:a:8", "b_:a:16", "bb:a:32"),
		"paths that fall by users": list("b:z:1", "c:y:1", "d:x:1", "e::1"),
		"15":                       span(15),
		"16":                       span(16),
		"each bit":                 eachBit,
		"names of 1 octet":         list("-:-:1", "0:0:2", "9:9:3", "_:_:4", "a:a:5", "z:z:6"),
		"a longest name":           list(longestName + "::1"),
		"a longest path":           list("b:" + longestPath + ":1"),
		"names of all lengths":     list("c::1", "cc::2", "ccc::3", strings.Repeat("c", 15)+"::4", strings.Repeat("c", 16)+"::5"),
		"16 users from the root":   rootsOf(16),
	}
}

// rootsOf: n users, each from the root.
func rootsOf(n int) []api.Grant {
	var out []api.Grant
	for i := range n {
		out = append(out, api.Grant{User: fmt.Sprintf("u%04d", i), Perms: 1 + i%allRights})
	}
	return out
}

// noNames: and no paths' parts are.
func noNames() []string {
	return []string{"A", "bC", "b c", " b", "b ", "b@c", "b.c", "b:c", "é", "b\x00", "\xff", "b\n", "`", "{", ":", "^", ",", strings.Repeat("b", 17), strings.Repeat("b", 1000)}
}

func noUsers() []string {
	return append(noNames(), "", "b/c", "/", "b/")
}

func noPaths() []string {
	out := []string{"/", "//", "/b", "b/", "b//c", "/b/c", "b/c/", "a/b/c/d/e", "a/b/c/d/", "b/\x00", "b@c"}
	for _, s := range noNames() {
		out = append(out, s, s+"/b", "b/"+s, "a/b/c/"+s)
	}
	return out
}

func noRights() []int {
	return []int{0, 256, 257, 511, 512, 1 << 20, -1, -2, -128, -255, -256, math.MaxInt, math.MinInt}
}

// bad: grants that may not be, each fault at each place.
func bad() map[string][]api.Grant {
	out := map[string][]api.Grant{"17": span(17), "18": span(18), "17 from the root": rootsOf(17), "many": rootsOf(1000)}
	for i := range 16 {
		for k, s := range noUsers() {
			l := span(16)
			l[i].User = s
			out[fmt.Sprintf("user %d for no name, at %d", k, i)] = l
		}
		for k, s := range noPaths() {
			l := span(16)
			l[i].Path = s
			out[fmt.Sprintf("path %d for none, at %d", k, i)] = l
		}
		for k, n := range noRights() {
			l := span(16)
			l[i].Perms = n
			out[fmt.Sprintf("rights %d that are none, at %d", k, i)] = l
		}
	}
	for i := range 15 {
		fall, twice := span(16), span(16)
		fall[i], fall[i+1] = fall[i+1], fall[i]
		twice[i+1].User, twice[i+1].Path = twice[i].User, twice[i].Path
		out[fmt.Sprintf("a fall at %d", i)] = fall
		out[fmt.Sprintf("a grant twice, at %d", i)] = twice
	}
	out["one, no user"] = list(":a:1")
	out["one, no path"] = list("b:/:1")
	out["one, no rights"] = list("b:a:0")
	out["one of 256"] = list("b:a:256")
	out["one below 0"] = list("b:a:-1")
	out["the same twice"] = list("b:a:1", "b:a:1")
	out["twice, of other rights"] = list("b:a:1", "b:a:2")
	out["twice, from the root"] = list("b::1", "b::2")
	out["twice, not side by side"] = list("b:a:1", "b:b:1", "b:a:2")
	out["users that fall, paths that rise"] = list("c:a:1", "b:b:1")
	out["users that fall, one path"] = list("c:a:1", "b:a:1")
	out["users that fall from one to the root"] = list("c:a:1", "b::1")
	out["paths that fall"] = list("b:c:1", "b:b:1")
	out["paths that fall to the root"] = list("b:c:1", "b::1")
	out["a longer path ahead"] = list("b:a/b:1", "b:a:1")
	out["a path beneath ahead of one that is lower"] = list("b:a/b:1", "b:a-b:1")
	out["a longer user ahead"] = list("bb:a:1", "b:a:1")
	out["by both as one text"] = list("b-:a:1", "b:z:1")
	out["by letters, not by octets"] = list("a::1", "_::1")
	out["small ones ahead of figures"] = list("b:a:1", "b:9:1")
	return out
}

// lists: those that may be and those that may not.
func lists() map[string][]api.Grant {
	out := good()
	for what, l := range bad() {
		out["may not be: "+what] = l
	}
	return out
}

// users and paths: few, so that many are met again; those that begin alike and
// those that lie beneath each other among them.
var (
	users = []string{"b", "c", "b-", "bb"}
	paths = []string{"", "a", "a/b", "a/b/c", "a/b/c/d", "a/bc", "a-b", "ab", "b", "b/a"}
)

// some: grants of few users and paths.
func some(r *rand.Rand) []api.Grant {
	var out []api.Grant
	for _, i := range r.Perm(len(users) * len(paths))[:r.Intn(maxGrants+1)] {
		out = append(out, api.Grant{User: users[i%len(users)], Path: paths[i/len(users)], Perms: 1 + r.Intn(allRights)&r.Intn(allRights)})
	}
	return sorted(out)
}

// P13.1

// TestExample: the chapter's.
func TestExample(t *testing.T) {
	l, err := perms.Allow(nil, "u", "a", 1)
	if err != api.OK || !perms.May(l, "u", "a/b", 1) {
		t.Errorf("Allow of a user at a, 1 = %v, %d: not May at a/b", l, err)
	}
}

func TestCheck(t *testing.T) {
	for what, l := range good() {
		if err := perms.Check(l); err != api.OK || wantCheck(l) != api.OK {
			t.Errorf("Check of %s: %d", what, err)
		}
	}
	for what, l := range bad() {
		if err := perms.Check(l); err != api.ErrState || wantCheck(l) != api.ErrState {
			t.Errorf("Check of grants that may not be (%s): %d", what, err)
		}
	}
}

// TestCheckOfEachOctet: in users and in paths.
func TestCheckOfEachOctet(t *testing.T) {
	for c := range 256 {
		s := string([]byte{byte(c)})
		for _, k := range []string{s, s + "b", "b" + s, "b" + s + "b"} {
			name := strings.Contains("abcdefghijklmnopqrstuvwxyz0123456789-_", s)
			for _, one := range []struct {
				g    api.Grant
				good bool
			}{
				{api.Grant{User: k, Perms: 1}, name},
				{api.Grant{User: "b", Path: k, Perms: 1}, name || k == "b/b"},
				{api.Grant{User: "b", Path: "a/" + k, Perms: 1}, name || k == "b/b"},
			} {
				if err := perms.Check([]api.Grant{one.g}); err != state(one.good) {
					t.Errorf("Check of %v: %d, want %d", one.g, err, state(one.good))
				}
			}
		}
	}
}

// state: what Check says of what may be, and of what may not.
func state(good bool) api.Errno {
	if good {
		return api.OK
	}
	return api.ErrState
}

func TestCheckOfEachNumber(t *testing.T) {
	for n := range 80 {
		if err := perms.Check([]api.Grant{{User: strings.Repeat("b", n), Perms: 1}}); err != state(n >= 1 && n <= 16) {
			t.Errorf("Check of a user of %d octets: %d", n, err)
		}
		if err := perms.Check([]api.Grant{{User: "b", Path: strings.Repeat("b", n), Perms: 1}}); err != state(n <= 16) {
			t.Errorf("Check of a path of %d octets: %d", n, err)
		}
		if err := perms.Check([]api.Grant{{User: "b", Path: "a" + strings.Repeat("/b", n), Perms: 1}}); err != state(n < 4) {
			t.Errorf("Check of a path of %d names: %d", n+1, err)
		}
		if err := perms.Check(rootsOf(n)); err != state(n <= 16) {
			t.Errorf("Check of %d grants: %d", n, err)
		}
	}
	for n := -1000; n < 1000; n++ {
		if err := perms.Check([]api.Grant{{User: "b", Path: "a", Perms: n}}); err != state(n >= 1 && n <= 255) {
			t.Errorf("Check of the rights %d: %d", n, err)
		}
	}
}

// TestCheckOfEachOrder: of up to three grants of few users and paths.
func TestCheckOfEachOrder(t *testing.T) {
	var all []api.Grant
	for _, user := range users {
		for _, path := range []string{"", "a", "a-b", "a/b", "ab", "b"} {
			all = append(all, api.Grant{User: user, Path: path, Perms: 1})
		}
	}
	var grow func(l []api.Grant)
	grow = func(l []api.Grant) {
		if err := perms.Check(l); err != wantCheck(l) {
			t.Errorf("Check of %v: %d", l, err)
		}
		if len(l) == 3 {
			return
		}
		for _, g := range all {
			grow(append(slices.Clone(l), g))
		}
	}
	grow(nil)
}

func TestOfByHand(t *testing.T) {
	l := list("b::1", "b:a:2", "b:a/b:4", "b:a/b/c:8", "b:ab:16", "c:a:32", "c:a/b:33", "d:a/b/c/d:255")
	for _, k := range []struct {
		user, path string
		want       int
	}{
		{"b", "", 1},
		{"b", "a", 3},
		{"b", "a/b", 7},
		{"b", "a/b/c", 15},
		{"b", "a/b/c/d", 15},
		{"b", "a/b/d", 7},
		{"b", "a/bc", 3},
		{"b", "a/bc/c", 3},
		{"b", "a/c", 3},
		{"b", "ab", 17},
		{"b", "ab/c", 17},
		{"b", "abc", 1},
		{"b", "a-b", 1},
		{"b", "z/z/z/z", 1},
		{"c", "", 0},
		{"c", "a", 32},
		{"c", "a/b", 33},
		{"c", "a/b/c", 33},
		{"c", "a/c", 32},
		{"c", "ab", 0},
		{"c", "b", 0},
		{"d", "", 0},
		{"d", "a/b/c", 0},
		{"d", "a/b/c/d", 255},
		{"d", "a/b/c/dd", 0},
		{"e", "a", 0},
		{"bb", "a", 0},
		{"b-", "a/b", 0},
		{"", "", 255},
		{"", "a", 255},
		{"", "z/z/z/z", 255},
		{"", "/", 255}, // the owner's, of a path that is none too
		{"", "A", 255},
		{"", "a/b/c/d/e", 255},
		{"b", "/", 0},
		{"b", "a/", 0},
		{"b", "/a", 0},
		{"b", "A", 0},
		{"b", "a@b", 0},
		{"b", "a/b/c/d/e", 0},
		{"d", "a/b/c/d/e", 0},
		{"B", "a", 0},
		{" ", "a", 0},
	} {
		if got := perms.Of(l, k.user, k.path); got != k.want || got != wantOf(l, k.user, k.path) {
			t.Errorf("Of(%q, %q) = %d, want %d", k.user, k.path, got, k.want)
		}
	}
}

// TestOfNone: without grants, the owner alone has rights.
func TestOfNone(t *testing.T) {
	for _, path := range append(noPaths(), paths...) {
		for _, user := range append(noUsers(), users...) {
			want := 0
			if user == "" {
				want = 255
			}
			if got := perms.Of(nil, user, path); got != want {
				t.Errorf("Of(none, %q, %q) = %d, want %d", user, path, got, want)
			}
		}
	}
}

// TestOfAnyList: of grants that may not be, too: just the bits 1 to 128 count,
// and users and paths that are none give nothing.
func TestOfAnyList(t *testing.T) {
	for _, k := range []struct {
		l          []api.Grant
		user, path string
		want       int
	}{
		{list("b:a:0"), "b", "a", 0},
		{list("b:a:1"), "b", "a", 1},
		{list("b:a:255"), "b", "a", 255},
		{list("b:a:256"), "b", "a", 0},
		{list("b:a:257"), "b", "a", 1},
		{list("b:a:511"), "b", "a", 255},
		{list("b:a:-1"), "b", "a", 255},
		{list("b:a:-2"), "b", "a", 254},
		{list("b:a:-256"), "b", "a", 0},
		{list("b:a:-128"), "b", "a", 128},
		{list("b:a:256", "b:a:2"), "b", "a", 2},
		{list("b:a:1", "b:a:2"), "b", "a", 3},
		{list("b:b:1", "b:a:2", "b::4"), "b", "a", 6},
		{list("c:a:1", "b:a:2", "c:a:4"), "c", "a", 5},
		{list("B:a:1"), "B", "a", 0},
		{list("b/c:a:1"), "b/c", "a", 0},
		{list(":a:1"), "", "b", 255},
		{list(":a:1"), "b", "a", 0},
		{list("b:A:1", "b:/:2", "b:a/:4"), "b", "A", 0},
		{list("b:A:1", "b:/:2", "b:a/:4"), "b", "a", 0},
		{list("b:A:1", "b:/:2", "b:a/:4"), "b", "a/b", 0},
		{list("b:a/b/c/d/e:1"), "b", "a/b/c/d/e", 0},
		{list("b:/:1"), "b", "/", 0},
		{append(rootsOf(1000), list("b:a:1")...), "b", "a/b", 1},
	} {
		if got := perms.Of(k.l, k.user, k.path); got != k.want || got != wantOf(k.l, k.user, k.path) {
			t.Errorf("Of(%v, %q, %q) = %d, want %d", k.l, k.user, k.path, got, k.want)
		}
	}
	for what, l := range lists() {
		for _, g := range l[:min(len(l), 20)] {
			for _, path := range []string{g.Path, g.Path + "/x", g.Path + "x", "", "c/b/a", "e"} {
				if got, want := perms.Of(l, g.User, path), wantOf(l, g.User, path); got != want {
					t.Errorf("Of(%q, %q) of %s = %d, want %d", g.User, path, what, got, want)
				}
			}
		}
	}
}

// TestOfBitByBit: over many lists.
func TestOfBitByBit(t *testing.T) {
	r := rand.New(rand.NewSource(13))
	more := append([]string{"a/b/x", "a/bc/d", "ab/a", "z", "A", "/"}, paths...)
	for range 1000 {
		l := some(r)
		if perms.Check(l) != api.OK {
			t.Fatalf("Check of %v", l)
		}
		for _, user := range append([]string{"", "d", "B"}, users...) {
			for _, path := range more {
				if got, want := perms.Of(l, user, path), wantOf(l, user, path); got != want {
					t.Fatalf("Of(%v, %q, %q) = %d, want %d", l, user, path, got, want)
				}
			}
		}
	}
}

// TestOfGoesDown: what is had at a path is had beneath it.
func TestOfGoesDown(t *testing.T) {
	r := rand.New(rand.NewSource(131))
	for range 1000 {
		l := some(r)
		for _, user := range users {
			for _, path := range paths {
				for _, from := range paths {
					if !beneath(path, from) {
						continue
					}
					if above := perms.Of(l, user, from); perms.Of(l, user, path)&above != above {
						t.Fatalf("Of(%v, %q): at %q not what is had at %q", l, user, path, from)
					}
				}
			}
		}
	}
}

func TestMayByHand(t *testing.T) {
	l := list("b::1", "b:a:6", "c:a:255")
	for _, k := range []struct {
		user, path string
		need       int
		want       bool
	}{
		{"b", "a", 0, true},
		{"b", "a", 1, true},
		{"b", "a", 2, true},
		{"b", "a", 3, true},
		{"b", "a", 7, true},
		{"b", "a", 8, false},
		{"b", "a", 9, false},
		{"b", "a", 15, false},
		{"b", "a", 255, false},
		{"b", "a/b", 7, true},
		{"b", "", 1, true},
		{"b", "", 2, false},
		{"b", "", 3, false},
		{"b", "ab", 6, false},
		{"b", "a", -1, false},
		{"b", "a", 256, false},
		{"b", "a", 257, false},
		{"c", "a", 255, true},
		{"c", "a/b", 128, true},
		{"c", "", 1, false},
		{"c", "", 0, true},
		{"c", "a", 256, false},
		{"c", "a", 511, false},
		{"c", "a", -1, false},
		{"c", "a", -256, false},
		{"", "", 255, true},
		{"", "a", 128, true},
		{"", "A", 255, true},
		{"", "a", 0, true},
		{"", "a", 256, false},
		{"", "a", 1 << 20, false},
		{"", "a", -1, false},
		{"", "a", math.MinInt, false},
		{"", "a", math.MaxInt, false},
		{"d", "a", 0, true},
		{"d", "a", 1, false},
		{"B", "a", 0, true},
		{"B", "a", 1, false},
		{"b", "A", 0, true},
		{"b", "A", 1, false},
		{"c", "a/b/c/d/e", 1, false},
	} {
		if got := perms.May(l, k.user, k.path, k.need); got != k.want || got != wantMay(l, k.user, k.path, k.need) {
			t.Errorf("May(%q, %q, %d) = %v, want %v", k.user, k.path, k.need, got, k.want)
		}
	}
}

// TestMayOfEachNeed: each bit by itself counts, whatever is had.
func TestMayOfEachNeed(t *testing.T) {
	for had := range 256 {
		l := []api.Grant{{User: "b", Path: "a", Perms: had}}
		for need := -300; need < 600; need++ {
			want := need >= 0 && need <= 255
			for _, bit := range bits {
				if has(need, bit) && !has(had, bit) {
					want = false
				}
			}
			if got := perms.May(l, "b", "a/b", need); got != want {
				t.Fatalf("May of %d with %d = %v", need, had, got)
			}
			if perms.May(l, "c", "a/b", need) != (need == 0) || perms.May(l, "b", "b", need) != (need == 0) {
				t.Fatalf("May of %d with none", need)
			}
			if perms.May(l, "", "z", need) != (need >= 0 && need <= 255) {
				t.Fatalf("May of %d, of the owner", need)
			}
		}
	}
}

func TestMayOfAnyList(t *testing.T) {
	for what, l := range lists() {
		for _, user := range []string{"", "b", "d", "B", "z"} {
			for _, path := range []string{"", "c", "c/b", "c/b/x", "cb", "e", "A"} {
				for _, need := range []int{0, 1, 2, 3, 51, 101, 128, 255, 256, -1} {
					if got := perms.May(l, user, path, need); got != wantMay(l, user, path, need) {
						t.Errorf("May(%q, %q, %d) of %s = %v", user, path, need, what, got)
					}
				}
			}
		}
	}
}
