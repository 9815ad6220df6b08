package holds_test

import (
	"regexp"
	"slices"
	"testing"

	"godown/api"
	"godown/holds"
	"godown/tree"
)

// What the chapter's words tell of each call, told without the layers that the
// calls lean on (but for whether a tenant may be, which is tree's).

var (
	namePattern = regexp.MustCompile(`\A[a-z0-9_-]{1,16}\z`)
	pathPattern = regexp.MustCompile(`\A([a-z0-9_-]{1,16}(/[a-z0-9_-]{1,16}){0,3})?\z`)
)

// fault: an error, and whether there is cause for it.
type fault struct {
	holds bool
	err   api.Errno
}

// reply: all that a call answers.
type reply struct {
	Tenant api.Tenant
	Err    api.Errno
	Is     bool
	List   []string
}

// answer: the tenant if there is no fault, else the first's error alone.
func answer(x api.Tenant, l ...fault) reply {
	for _, f := range l {
		if f.holds {
			return reply{Err: f.err}
		}
	}
	return reply{Tenant: x}
}

// snapIn: the first set's of that path, of it the first of that name.
func snapIn(x *api.Tenant, path, name string) *api.Snap {
	for i := range x.Sets {
		if x.Sets[i].Path != path {
			continue
		}
		for j := range x.Sets[i].Snaps {
			if x.Sets[i].Snaps[j].Name == name {
				return &x.Sets[i].Snaps[j]
			}
		}
		break
	}
	return nil
}

// wantTagged: what do answers, by the snapshot's tags, which are as it leaves
// them, but rising.
func wantTagged(x api.Tenant, path, name, tag string, do func(l []string) ([]string, []fault)) reply {
	y := deep(x, 0)
	faults := []fault{
		{tree.Check(x) != api.OK, api.ErrState},
		{!pathPattern.MatchString(path), api.ErrName},
		{!namePattern.MatchString(name), api.ErrName},
		{!namePattern.MatchString(tag), api.ErrName},
	}
	n := snapIn(&y, path, name)
	if n == nil {
		return answer(y, append(faults, fault{true, api.ErrNone})...)
	}
	l, more := do(n.Tags)
	slices.Sort(l)
	n.Tags = l
	return answer(y, append(faults, more...)...)
}

func wantHold(x api.Tenant, path, name, tag string) reply {
	return wantTagged(x, path, name, tag, func(l []string) ([]string, []fault) {
		return append(l, tag), []fault{
			{slices.Contains(l, tag), api.ErrTwice},
			{len(l) >= maxTags, api.ErrCount},
		}
	})
}

func wantRelease(x api.Tenant, path, name, tag string) reply {
	return wantTagged(x, path, name, tag, func(l []string) ([]string, []fault) {
		var out []string
		for _, s := range l {
			if s != tag {
				out = append(out, s)
			}
		}
		return out, []fault{{len(out) == len(l), api.ErrNone}}
	})
}

// ask: a call with all that it is handed but for the tenant, and what the words
// tell of it.
type ask struct {
	what string
	call func(x api.Tenant) reply
	want func(x api.Tenant) reply
}

func hold(path, name, tag string) ask {
	return ask{"Hold of " + brief([]any{path, name, tag}),
		func(x api.Tenant) reply {
			y, err := holds.Hold(x, path, name, tag)
			return reply{Tenant: y, Err: err}
		},
		func(x api.Tenant) reply { return wantHold(x, path, name, tag) }}
}

func release(path, name, tag string) ask {
	return ask{"Release of " + brief([]any{path, name, tag}),
		func(x api.Tenant) reply {
			y, err := holds.Release(x, path, name, tag)
			return reply{Tenant: y, Err: err}
		},
		func(x api.Tenant) reply { return wantRelease(x, path, name, tag) }}
}

func held(path, name string) ask {
	return ask{"Held of " + brief([]any{path, name}),
		func(x api.Tenant) reply { return reply{Is: holds.Held(x, path, name)} },
		func(x api.Tenant) reply {
			n := snapIn(&x, path, name)
			return reply{Is: n != nil && len(n.Tags) > 0}
		}}
}

func all() ask {
	return ask{"All",
		func(x api.Tenant) reply { return reply{List: holds.All(x)} },
		func(x api.Tenant) reply {
			var out []string
			for _, s := range x.Sets {
				for _, n := range s.Snaps {
					if len(n.Tags) > 0 {
						out = append(out, s.Path+"@"+n.Name)
					}
				}
			}
			return reply{List: out}
		}}
}

// mustAnswer: the call answers what the words tell, and leaves what it was
// handed as it was. It answers what the call did.
func mustAnswer(t *testing.T, what string, x api.Tenant, a ask) reply {
	t.Helper()
	ahead := whole(&x)
	want := a.want(x)
	got := a.call(x)
	if !one(got, want) {
		t.Fatalf("%s, %s: %s, want %s", what, a.what, brief(got), brief(want))
	}
	if whole(&x) != ahead {
		t.Fatalf("%s, %s: what was handed in was changed", what, a.what)
	}
	return got
}

// mustRefuse: the call answers that error, and else nothing.
func mustRefuse(t *testing.T, what string, x api.Tenant, a ask, want api.Errno) {
	t.Helper()
	if got := mustAnswer(t, what, x, a); !one(got, reply{Err: want}) {
		t.Errorf("%s, %s: %s, want error %d", what, a.what, brief(got), want)
	}
}

// mustBe: the call answers that tenant.
func mustBe(t *testing.T, what string, x api.Tenant, a ask, want api.Tenant) {
	t.Helper()
	if got := mustAnswer(t, what, x, a); !one(got, reply{Tenant: want}) {
		t.Errorf("%s, %s: %s, want %s", what, a.what, brief(got), brief(want))
	}
}

// mustTell: Held answers that.
func mustTell(t *testing.T, what string, x api.Tenant, a ask, want bool) {
	t.Helper()
	if got := mustAnswer(t, what, x, a); !one(got, reply{Is: want}) {
		t.Errorf("%s, %s: %t", what, a.what, got.Is)
	}
}

// mustList: All answers these, and so does Held of each snapshot.
func mustList(t *testing.T, what string, x api.Tenant, want ...string) {
	t.Helper()
	if got := mustAnswer(t, what, x, all()); !one(got, reply{List: want}) {
		t.Errorf("%s, All: %q, want %q", what, got.List, want)
	}
	for _, n := range snapsAll(x) {
		mustTell(t, what, x, held(n.Path, n.Name), slices.Contains(want, n.Path+"@"+n.Name))
	}
}
