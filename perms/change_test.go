package perms_test

import (
	"fmt"
	"math/rand"
	"slices"
	"strings"
	"testing"

	"godown/api"
	"godown/perms"
)

// others: the grants but the one of that user from just that path.
func others(l []api.Grant, user, path string) []api.Grant {
	return slices.DeleteFunc(slices.Clone(l), func(g api.Grant) bool { return g.User == user && g.Path == path })
}

// own: the rights of the grant of that user from just that path; 0: there is
// none.
func own(l []api.Grant, user, path string) int {
	for _, g := range l {
		if g.User == user && g.Path == path {
			return g.Perms
		}
	}
	return 0
}

func wantRefused(l []api.Grant, user, path string, rights int) api.Errno {
	switch {
	case wantCheck(l) != api.OK:
		return api.ErrState
	case !namePattern.MatchString(user) || !pathPattern.MatchString(path):
		return api.ErrName
	case rights < 1 || rights > allRights:
		return api.ErrRange
	}
	return api.OK
}

func wantAllow(l []api.Grant, user, path string, rights int) ([]api.Grant, api.Errno) {
	if err := wantRefused(l, user, path, rights); err != api.OK {
		return nil, err
	}
	now := own(l, user, path)
	for _, bit := range bits {
		if has(rights, bit) && !has(now, bit) {
			now += bit
		}
	}
	out := append(others(l, user, path), api.Grant{User: user, Path: path, Perms: now})
	if len(out) > maxGrants {
		return nil, api.ErrCount
	}
	return sorted(out), api.OK
}

func wantDeny(l []api.Grant, user, path string, rights int) ([]api.Grant, api.Errno) {
	if err := wantRefused(l, user, path, rights); err != api.OK {
		return nil, err
	}
	now := own(l, user, path)
	if now == 0 {
		return nil, api.ErrNone
	}
	for _, bit := range bits {
		if has(rights, bit) && has(now, bit) {
			now -= bit
		}
	}
	out := others(l, user, path)
	if now > 0 {
		out = append(out, api.Grant{User: user, Path: path, Perms: now})
	}
	return sorted(out), api.OK
}

func mustAllow(t *testing.T, what string, l []api.Grant, user, path string, rights int) {
	t.Helper()
	want, wantErr := wantAllow(l, user, path, rights)
	got, err := perms.Allow(l, user, path, rights)
	if err != wantErr || !slices.Equal(got, want) || err != api.OK && got != nil {
		t.Errorf("Allow of %q at %q, %d, in %s = %v, %d, want %v, %d", user, path, rights, what, got, err, want, wantErr)
	}
}

func mustDeny(t *testing.T, what string, l []api.Grant, user, path string, rights int) {
	t.Helper()
	want, wantErr := wantDeny(l, user, path, rights)
	got, err := perms.Deny(l, user, path, rights)
	if err != wantErr || !slices.Equal(got, want) || len(want) == 0 && got != nil {
		t.Errorf("Deny of %q at %q, %d, in %s = %v, %d, want %v, %d", user, path, rights, what, got, err, want, wantErr)
	}
}

// P13.2

func TestAllowByHand(t *testing.T) {
	two := list("b:c:1", "d:c:2")
	for _, k := range []struct {
		l          []api.Grant
		user, path string
		rights     int
		want       []api.Grant
		err        api.Errno
	}{
		{nil, "b", "a", 1, list("b:a:1"), api.OK},
		{nil, "b", "", 255, list("b::255"), api.OK},
		{nil, longestName, longestPath, 128, list(longestName + ":" + longestPath + ":128"), api.OK},
		{two, "a", "z", 4, list("a:z:4", "b:c:1", "d:c:2"), api.OK},
		{two, "b", "", 4, list("b::4", "b:c:1", "d:c:2"), api.OK},
		{two, "b", "b", 4, list("b:b:4", "b:c:1", "d:c:2"), api.OK},
		{two, "b", "c", 4, list("b:c:5", "d:c:2"), api.OK},
		{two, "b", "c", 1, two, api.OK},
		{two, "b", "c", 3, list("b:c:3", "d:c:2"), api.OK},
		{two, "b", "c", 255, list("b:c:255", "d:c:2"), api.OK},
		{two, "b", "c/d", 1, list("b:c:1", "b:c/d:1", "d:c:2"), api.OK}, // had at c, yet a grant of its own
		{two, "b", "d", 4, list("b:c:1", "b:d:4", "d:c:2"), api.OK},
		{two, "c", "c", 4, list("b:c:1", "c:c:4", "d:c:2"), api.OK},
		{two, "d", "b", 4, list("b:c:1", "d:b:4", "d:c:2"), api.OK},
		{two, "d", "c", 4, list("b:c:1", "d:c:6"), api.OK},
		{two, "d", "cc", 4, list("b:c:1", "d:c:2", "d:cc:4"), api.OK},
		{two, "e", "", 4, list("b:c:1", "d:c:2", "e::4"), api.OK},
		{list("b:z:1"), "b-", "a", 4, list("b:z:1", "b-:a:4"), api.OK},
		{list("b-:a:1"), "b", "z", 4, list("b:z:4", "b-:a:1"), api.OK},
		{list("b:a:1", "b:a/b:2"), "b", "a-b", 4, list("b:a:1", "b:a-b:4", "b:a/b:2"), api.OK},
		{list("b:a:254"), "b", "a", 1, list("b:a:255"), api.OK},
		{list("b:a:255"), "b", "a", 255, list("b:a:255"), api.OK},
		{span(15), "a", "a", 1, append(list("a:a:1"), span(15)...), api.OK},
		{span(15), "h", "d", 1, append(span(15), list("h:d:1")...), api.OK},
		{span(15), "z", "z", 1, append(span(15), list("z:z:1")...), api.OK},
		{span(15), "c", "z", 1, append(append(span(4), list("c:z:1")...), span(15)[4:]...), api.OK},
		{span(16), "a", "a", 1, nil, api.ErrCount},
		{span(16), "c", "z", 1, nil, api.ErrCount},
		{span(16), "b", "c/d", 1, nil, api.ErrCount},
		{span(16), "z", "z", 255, nil, api.ErrCount},
		{span(16), "b", "", 2, append(list("b::3"), span(16)[1:]...), api.OK},
		{span(16), "b", "", 1, span(16), api.OK},
		{span(16), "h", "e", 255, append(span(15), list("h:e:255")...), api.OK},
	} {
		if got, err := perms.Allow(k.l, k.user, k.path, k.rights); err != k.err || !slices.Equal(got, k.want) {
			t.Errorf("Allow(%v, %q, %q, %d) = %v, %d, want %v, %d", k.l, k.user, k.path, k.rights, got, err, k.want, k.err)
		}
		mustAllow(t, "by hand", k.l, k.user, k.path, k.rights)
	}
}

func TestDenyByHand(t *testing.T) {
	l := list("b:c:7", "b:e:1", "d:c:2")
	for _, k := range []struct {
		l          []api.Grant
		user, path string
		rights     int
		want       []api.Grant
		err        api.Errno
	}{
		{nil, "b", "a", 1, nil, api.ErrNone},
		{list("b:a:1"), "b", "a", 1, nil, api.OK},
		{list("b:a:1"), "b", "a", 255, nil, api.OK},
		{list("b:a:255"), "b", "a", 255, nil, api.OK},
		{list("b::3"), "b", "", 1, list("b::2"), api.OK},
		{l, "b", "c", 1, list("b:c:6", "b:e:1", "d:c:2"), api.OK},
		{l, "b", "c", 2, list("b:c:5", "b:e:1", "d:c:2"), api.OK},
		{l, "b", "c", 5, list("b:c:2", "b:e:1", "d:c:2"), api.OK},
		{l, "b", "c", 7, list("b:e:1", "d:c:2"), api.OK},
		{l, "b", "c", 255, list("b:e:1", "d:c:2"), api.OK},
		{l, "b", "c", 8, l, api.OK}, // none of them is there
		{l, "b", "c", 248, l, api.OK},
		{l, "b", "c", 12, list("b:c:3", "b:e:1", "d:c:2"), api.OK},
		{l, "b", "e", 1, list("b:c:7", "d:c:2"), api.OK},
		{l, "b", "e", 2, l, api.OK},
		{l, "d", "c", 2, list("b:c:7", "b:e:1"), api.OK},
		{l, "d", "c", 1, l, api.OK},
		{l, "b", "", 1, nil, api.ErrNone},
		{l, "b", "c/d", 1, nil, api.ErrNone}, // had there, but not from there
		{l, "b", "cc", 1, nil, api.ErrNone},
		{l, "b", "d", 1, nil, api.ErrNone},
		{l, "c", "c", 1, nil, api.ErrNone},
		{l, "d", "e", 1, nil, api.ErrNone},
		{l, "a", "c", 1, nil, api.ErrNone},
		{l, "z", "z", 1, nil, api.ErrNone},
		{span(16), "b", "", 255, span(16)[1:], api.OK},
		{span(16), "h", "e", 255, span(15), api.OK},
		{span(16), "d", "c", 255, append(span(5), span(16)[6:]...), api.OK},
		{span(16), "z", "z", 1, nil, api.ErrNone},
	} {
		if got, err := perms.Deny(k.l, k.user, k.path, k.rights); err != k.err || !slices.Equal(got, k.want) {
			t.Errorf("Deny(%v, %q, %q, %d) = %v, %d, want %v, %d", k.l, k.user, k.path, k.rights, got, err, k.want, k.err)
		}
		mustDeny(t, "by hand", k.l, k.user, k.path, k.rights)
	}
}

// TestChange: of grants that may be, whatever is there and is not.
func TestChange(t *testing.T) {
	for what, l := range good() {
		asked := []api.Grant{{User: longestName, Path: longestPath}, {User: "-"}, {User: "zz", Path: "zz"}}
		for _, user := range []string{"a", "b", "b-", "c", "h", "i", "z"} {
			for _, path := range []string{"", "-", "a", "a-b", "a/b", "b", "c", "c/b", "d", "e", "z"} {
				asked = append(asked, api.Grant{User: user, Path: path})
			}
		}
		for _, g := range append(asked, l...) {
			for _, rights := range []int{1, 2, 3, 6, 51, 64, 127, 128, 254, 255} {
				mustAllow(t, what, l, g.User, g.Path, rights)
				mustDeny(t, what, l, g.User, g.Path, rights)
			}
		}
	}
}

// TestChangeOfEachRights: each kind of rights with each other.
func TestChangeOfEachRights(t *testing.T) {
	for had := 1; had < 256; had++ {
		l := []api.Grant{{User: "a", Path: "a", Perms: 255}, {User: "b", Path: "a", Perms: had}, {User: "c", Path: "a", Perms: 1}}
		for rights := -2; rights < 259; rights++ {
			mustAllow(t, fmt.Sprint("what has ", had), l, "b", "a", rights)
			mustDeny(t, fmt.Sprint("what has ", had), l, "b", "a", rights)
		}
	}
}

// TestChangeRefuses: ErrState, ErrName, ErrRange, then ErrCount or ErrNone.
func TestChangeRefuses(t *testing.T) {
	for what, l := range good() {
		for _, user := range append(noUsers(), "b", "zz") {
			for _, path := range append(noPaths(), "", "c", "zz") {
				for _, rights := range []int{0, 1, 255, 256, -1} {
					mustAllow(t, what, l, user, path, rights)
					mustDeny(t, what, l, user, path, rights)
				}
			}
		}
		for _, rights := range noRights() {
			mustAllow(t, what, l, "b", "c", rights)
			mustDeny(t, what, l, "b", "c", rights)
		}
	}
	for what, l := range bad() {
		for _, user := range []string{"", "B", "b", "z"} {
			for _, path := range []string{"", "/", "c", "z"} {
				for _, rights := range []int{0, 1, 255, 256} {
					mustAllow(t, what, l, user, path, rights)
					mustDeny(t, what, l, user, path, rights)
				}
			}
		}
	}
}

// TestChangeRefusesByHand: several faults at once.
func TestChangeRefusesByHand(t *testing.T) {
	twice := list("b:a:1", "b:a:2")
	for _, k := range []struct {
		l           []api.Grant
		user, path  string
		rights      int
		allow, deny api.Errno
	}{
		{twice, "B", "/", 0, api.ErrState, api.ErrState},
		{twice, "b", "/", 0, api.ErrState, api.ErrState},
		{twice, "b", "a", 0, api.ErrState, api.ErrState},
		{twice, "b", "a", 1, api.ErrState, api.ErrState},
		{twice, "z", "z", 1, api.ErrState, api.ErrState},
		{span(17), "b", "c", 1, api.ErrState, api.ErrState},
		{span(17), "z", "z", 1, api.ErrState, api.ErrState},
		{span(17), "z", "/", 0, api.ErrState, api.ErrState},
		{list("b:a:0"), "b", "a", 1, api.ErrState, api.ErrState},
		{list("b:a:256"), "b", "a", 256, api.ErrState, api.ErrState},
		{list(":a:1"), "", "a", 1, api.ErrState, api.ErrState},
		{span(16), "", "c", 1, api.ErrName, api.ErrName}, // the owner has no grants
		{span(16), "", "", 0, api.ErrName, api.ErrName},
		{span(16), "B", "/", 0, api.ErrName, api.ErrName},
		{span(16), "B", "c", 0, api.ErrName, api.ErrName},
		{span(16), "b", "/", 0, api.ErrName, api.ErrName},
		{span(16), "b", "c/", 256, api.ErrName, api.ErrName},
		{span(16), "b", "a/b/c/d/e", 1, api.ErrName, api.ErrName},
		{span(16), strings.Repeat("b", 17), "c", 1, api.ErrName, api.ErrName},
		{span(16), "z", "z", 0, api.ErrRange, api.ErrRange},
		{span(16), "z", "z", 256, api.ErrRange, api.ErrRange},
		{span(16), "z", "z", -1, api.ErrRange, api.ErrRange},
		{span(16), "b", "c", 0, api.ErrRange, api.ErrRange},
		{span(16), "b", "c", 256, api.ErrRange, api.ErrRange},
		{span(16), "z", "z", 1, api.ErrCount, api.ErrNone},
		{span(16), "z", "z", 255, api.ErrCount, api.ErrNone},
		{span(15), "z", "z", 255, api.OK, api.ErrNone},
		{nil, "", "", 0, api.ErrName, api.ErrName},
		{nil, "b", "", 0, api.ErrRange, api.ErrRange},
		{nil, "b", "", 1, api.OK, api.ErrNone},
	} {
		if got, err := perms.Allow(k.l, k.user, k.path, k.rights); err != k.allow || err != api.OK && got != nil {
			t.Errorf("Allow(%v, %q, %q, %d) = %v, %d, want %d", k.l, k.user, k.path, k.rights, got, err, k.allow)
		}
		if got, err := perms.Deny(k.l, k.user, k.path, k.rights); err != k.deny || err != api.OK && got != nil {
			t.Errorf("Deny(%v, %q, %q, %d) = %v, %d, want %d", k.l, k.user, k.path, k.rights, got, err, k.deny)
		}
	}
}

// TestAllowedFromThereOn: what is allowed is had from that path on, by that user
// alone; all else is had as it was.
func TestAllowedFromThereOn(t *testing.T) {
	r := rand.New(rand.NewSource(132))
	allowed := 0
	for range 3000 {
		l := some(r)
		user, from, rights := users[r.Intn(len(users))], paths[r.Intn(len(paths))], 1+r.Intn(allRights)
		now, err := perms.Allow(l, user, from, rights)
		if err != api.OK {
			continue
		}
		allowed++
		for _, one := range append([]string{"", "d"}, users...) {
			for _, path := range append([]string{from + "/x", from + "x", "z", "A"}, paths...) {
				want := perms.Of(l, one, path)
				if one == user && beneath(path, from) {
					want |= rights
				}
				if got := perms.Of(now, one, path); got != want {
					t.Fatalf("%q at %q behind Allow(%v, %q, %q, %d): %d, want %d", one, path, l, user, from, rights, got, want)
				}
			}
		}
	}
	if allowed < 2000 {
		t.Errorf("only %d are allowed", allowed)
	}
}

// TestAllowedThenDenied: where no grant was, it leaves the list as it was, and
// where one was, without the rights.
func TestAllowedThenDenied(t *testing.T) {
	r := rand.New(rand.NewSource(133))
	fresh := 0
	for range 10000 {
		l := some(r)
		user, path, rights := users[r.Intn(len(users))], paths[r.Intn(len(paths))], 1+r.Intn(allRights)
		now, err := perms.Allow(l, user, path, rights)
		if err != api.OK {
			continue
		}
		then, err := perms.Deny(now, user, path, rights)
		want := l
		if own(l, user, path) == 0 {
			fresh++
		} else {
			want, _ = wantDeny(l, user, path, rights)
		}
		if err != api.OK || !slices.Equal(then, want) {
			t.Fatalf("Deny behind Allow(%v, %q, %q, %d) = %v, %d", l, user, path, rights, then, err)
		}
	}
	if fresh < 2000 {
		t.Errorf("only %d where no grant was", fresh)
	}
	for what, l := range good() {
		if len(l) == maxGrants {
			continue
		}
		now, err := perms.Allow(l, "new", "new/one", 255)
		then, again := perms.Deny(now, "new", "new/one", 255)
		if err != api.OK || again != api.OK || !slices.Equal(then, l) {
			t.Errorf("%s: Allow and Deny = %v, %d, %d", what, then, err, again)
		}
	}
}

// TestAllowAndDeny: histories of both, held against a table.
func TestAllowAndDeny(t *testing.T) {
	r := rand.New(rand.NewSource(134))
	told := map[api.Errno]int{}
	for range 200 {
		var l []api.Grant
		table := map[[2]string]int{}
		for range 100 {
			user, path, rights := users[r.Intn(len(users))], paths[r.Intn(len(paths))], 1+r.Intn(allRights)
			at := [2]string{user, path}
			_, is := table[at]
			var got []api.Grant
			var err, want api.Errno
			if r.Intn(3) > 0 {
				got, err = perms.Allow(l, user, path, rights)
				if !is && len(table) == maxGrants {
					want = api.ErrCount
				} else {
					table[at] |= rights
				}
			} else {
				got, err = perms.Deny(l, user, path, rights)
				if !is {
					want = api.ErrNone
				} else if table[at] &= ^rights; table[at] == 0 {
					delete(table, at)
				}
			}
			told[err]++
			if err != want {
				t.Fatalf("%q at %q in %v: %d, want %d", user, path, l, err, want)
			}
			if err == api.OK {
				l = got
			}
			mustBe(t, l, table)
		}
	}
	if told[api.OK] < 1000 || told[api.ErrCount] < 100 || told[api.ErrNone] < 100 {
		t.Errorf("too few of a kind: %v", told)
	}
}

// mustBe: the grants that the table has, and no others.
func mustBe(t *testing.T, l []api.Grant, table map[[2]string]int) {
	t.Helper()
	if wantCheck(l) != api.OK || perms.Check(l) != api.OK || len(l) != len(table) {
		t.Fatalf("%v, want %v", l, table)
	}
	for _, g := range l {
		if table[[2]string{g.User, g.Path}] != g.Perms {
			t.Fatalf("%v, want %v", l, table)
		}
	}
}
