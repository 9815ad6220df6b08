package snaps_test

import (
	"regexp"
	"slices"
	"strings"
	"testing"

	"godown/api"
	"godown/snaps"
	"godown/tree"
)

// What the chapter's words tell of each call, told without the layers that the
// calls lean on (but for whether a tenant may be, which is tree's).

var (
	namePattern = regexp.MustCompile(`\A[a-z0-9_-]{1,16}\z`)
	pathPattern = regexp.MustCompile(`\A([a-z0-9_-]{1,16}(/[a-z0-9_-]{1,16}){0,3})?\z`)
)

// fault: an error, and whether there is cause for it.
type fault struct {
	holds bool
	err   api.Errno
}

// reply: all that a call answers.
type reply struct {
	Tenant api.Tenant
	Guid   int
	Err    api.Errno
}

// answer: what is told if there is no fault, else the first's error alone.
func answer(x api.Tenant, guid int, l ...fault) reply {
	for _, f := range l {
		if f.holds {
			return reply{Err: f.err}
		}
	}
	return reply{Tenant: x, Guid: guid}
}

// chargeOf: 1 and how many blocks it has, of each content.
func chargeOf(x api.Tenant) int {
	sum := 0
	for _, s := range x.Sets {
		sum += 1 + len(s.Body)
		for _, n := range s.Snaps {
			sum += 1 + len(n.Body)
		}
	}
	for _, s := range x.Stages {
		sum += 1 + len(s.Body)
	}
	return sum
}

func tooMuch(x api.Tenant) fault {
	return fault{chargeOf(x) > x.Quota, api.ErrQuota}
}

// heads: what is asked first of a tenant, a path and a name.
func heads(x api.Tenant, path, name string) []fault {
	return []fault{
		{tree.Check(x) != api.OK, api.ErrState},
		{!pathPattern.MatchString(path), api.ErrName},
		{!namePattern.MatchString(name), api.ErrName},
	}
}

func isThere(x api.Tenant, path string) bool {
	return slices.Contains(pathsOf(x), path)
}

func isSnap(x api.Tenant, path, name string) bool {
	return slices.Contains(snapsAll(x), snapOf{path, name})
}

// rewritten: the tenant in memory of its own, with what do did to each set of
// that path.
func rewritten(x api.Tenant, path string, do func(s *api.Set)) api.Tenant {
	x = deep(x, 0)
	for i := range x.Sets {
		if x.Sets[i].Path == path {
			do(&x.Sets[i])
		}
	}
	return x
}

func wantSnapshot(x api.Tenant, path, name string) reply {
	faults := append(heads(x, path, name),
		fault{!isThere(x, path), api.ErrNone},
		fault{isSnap(x, path, name), api.ErrTwice},
	)
	many, guid := 0, x.Next
	for _, s := range x.Sets {
		for _, n := range s.Snaps {
			if s.Path == path {
				many++
				guid = max(guid, n.Guid+1)
			}
		}
	}
	faults = append(faults, fault{many >= maxSnaps, api.ErrCount}, fault{guid >= maxAmount, api.ErrOver})
	x = rewritten(x, path, func(s *api.Set) {
		s.Snaps = append(s.Snaps, api.Snap{Name: name, Guid: guid, Body: s.Body, Own: s.Own})
	})
	x.Next = guid + 1
	return answer(x, guid, append(faults, tooMuch(x))...)
}

// clonesOf: how many.
func clonesOf(x api.Tenant, path, name string) int {
	sum := 0
	for _, s := range x.Sets {
		if s.Origin == path+"@"+name {
			sum++
		}
	}
	return sum
}

func wantDestroy(x api.Tenant, path, name string) reply {
	tags := 0
	y := rewritten(x, path, func(s *api.Set) {
		s.Snaps = slices.DeleteFunc(s.Snaps, func(n api.Snap) bool {
			if n.Name == name {
				tags += len(n.Tags)
			}
			return n.Name == name
		})
	})
	return answer(y, 0, append(heads(x, path, name),
		fault{!isSnap(x, path, name), api.ErrNone},
		fault{clonesOf(x, path, name) > 0, api.ErrBusy},
		fault{tags > 0, api.ErrHeld},
	)...)
}

func wantRollback(x api.Tenant, path, name string) reply {
	behind := 0
	y := rewritten(x, path, func(s *api.Set) {
		met := false
		for _, n := range s.Snaps {
			if met {
				behind++
			}
			if n.Name == name {
				s.Body, s.Own, met = n.Body, n.Own, true
			}
		}
	})
	return answer(y, 0, append(heads(x, path, name),
		fault{!isSnap(x, path, name), api.ErrNone},
		fault{behind > 0, api.ErrBusy},
		tooMuch(y),
	)...)
}

func wantClone(x api.Tenant, path, name, to string) reply {
	parent := to
	for parent != "" && !strings.HasSuffix(parent, "/") {
		parent = parent[:len(parent)-1]
	}
	parent = strings.TrimSuffix(parent, "/")
	faults := append(heads(x, path, name),
		fault{!pathPattern.MatchString(to), api.ErrName},
		fault{!isSnap(x, path, name), api.ErrNone},
		fault{isThere(x, to), api.ErrTwice},
		fault{to == "" || !isThere(x, parent), api.ErrNone},
		fault{len(x.Sets) >= maxSets, api.ErrCount},
	)
	clone := api.Set{Path: to, Origin: path + "@" + name}
	x = rewritten(x, path, func(s *api.Set) {
		for _, n := range s.Snaps {
			if n.Name == name {
				clone.Body, clone.Own = n.Body, n.Own
			}
		}
	})
	x.Sets = append(x.Sets, clone)
	slices.SortStableFunc(x.Sets, func(a, b api.Set) int { return strings.Compare(a.Path, b.Path) })
	return answer(x, 0, append(faults, tooMuch(x))...)
}

func wantRename(x api.Tenant, path, name, to string) reply {
	y := rewritten(x, path, func(s *api.Set) {
		for i := range s.Snaps {
			if s.Snaps[i].Name == name {
				s.Snaps[i].Name = to
			}
		}
	})
	for i := range y.Sets {
		if y.Sets[i].Origin == path+"@"+name {
			y.Sets[i].Origin = path + "@" + to
		}
	}
	return answer(y, 0, append(heads(x, path, name),
		fault{!namePattern.MatchString(to), api.ErrName},
		fault{!isSnap(x, path, name), api.ErrNone},
		fault{isSnap(x, path, to), api.ErrTwice},
	)...)
}

// ask: a call with all that it is handed but for the tenant, and what the words
// tell of it.
type ask struct {
	what string
	call func(x api.Tenant) reply
	want func(x api.Tenant) reply
}

func snapshot(path, name string) ask {
	return ask{"Snapshot of " + brief([]any{path, name}),
		func(x api.Tenant) reply {
			y, guid, err := snaps.Snapshot(x, path, name)
			return reply{y, guid, err}
		},
		func(x api.Tenant) reply { return wantSnapshot(x, path, name) }}
}

func destroy(path, name string) ask {
	return ask{"Destroy of " + brief([]any{path, name}),
		func(x api.Tenant) reply {
			y, err := snaps.Destroy(x, path, name)
			return reply{y, 0, err}
		},
		func(x api.Tenant) reply { return wantDestroy(x, path, name) }}
}

func rollback(path, name string) ask {
	return ask{"Rollback to " + brief([]any{path, name}),
		func(x api.Tenant) reply {
			y, err := snaps.Rollback(x, path, name)
			return reply{y, 0, err}
		},
		func(x api.Tenant) reply { return wantRollback(x, path, name) }}
}

func clone(path, name, to string) ask {
	return ask{"Clone of " + brief([]any{path, name, to}),
		func(x api.Tenant) reply {
			y, err := snaps.Clone(x, path, name, to)
			return reply{y, 0, err}
		},
		func(x api.Tenant) reply { return wantClone(x, path, name, to) }}
}

func rename(path, name, to string) ask {
	return ask{"Rename of " + brief([]any{path, name, to}),
		func(x api.Tenant) reply {
			y, err := snaps.Rename(x, path, name, to)
			return reply{y, 0, err}
		},
		func(x api.Tenant) reply { return wantRename(x, path, name, to) }}
}

// mustAnswer: the call answers what the words tell, and leaves what it was
// handed as it was. It answers what the call did.
func mustAnswer(t *testing.T, what string, x api.Tenant, a ask) reply {
	t.Helper()
	ahead := whole(&x)
	want := a.want(x)
	got := a.call(x)
	if !one(got, want) {
		t.Fatalf("%s, %s: error %d, Guid %d and %s, want %d, %d and %s", what, a.what, got.Err, got.Guid, brief(got.Tenant), want.Err, want.Guid, brief(want.Tenant))
	}
	if whole(&x) != ahead {
		t.Fatalf("%s, %s: what was handed in was changed", what, a.what)
	}
	return got
}

// mustRefuse: the call answers that error, and else nothing.
func mustRefuse(t *testing.T, what string, x api.Tenant, a ask, want api.Errno) {
	t.Helper()
	if got := mustAnswer(t, what, x, a); !one(got, reply{Err: want}) {
		t.Errorf("%s, %s: error %d, Guid %d and %s, want %d", what, a.what, got.Err, got.Guid, brief(got.Tenant), want)
	}
}

// mustBe: the call answers that tenant.
func mustBe(t *testing.T, what string, x api.Tenant, a ask, want api.Tenant) {
	t.Helper()
	if got := mustAnswer(t, what, x, a); got.Err != api.OK || !one(got.Tenant, want) {
		t.Errorf("%s, %s: error %d and %s, want %s", what, a.what, got.Err, brief(got.Tenant), brief(want))
	}
}

// mustHave: Snapshot answers that Guid and that tenant.
func mustHave(t *testing.T, what string, x api.Tenant, a ask, guid int, want api.Tenant) {
	t.Helper()
	if got := mustAnswer(t, what, x, a); !one(got, reply{Tenant: want, Guid: guid}) {
		t.Errorf("%s, %s: error %d, Guid %d and %s, want %d and %s", what, a.what, got.Err, got.Guid, brief(got.Tenant), guid, brief(want))
	}
}
