package shape_test

import (
	"maps"
	"regexp"
	"slices"
	"strings"
	"testing"

	"godown/api"
	"godown/shape"
	"godown/tree"
)

// What the chapter's words tell of each call, told without the layers that the
// calls lean on (but for whether a tenant may be, which is tree's).

var (
	namePattern  = regexp.MustCompile(`\A[a-z0-9_-]{1,16}\z`)
	pathPattern  = regexp.MustCompile(`\A([a-z0-9_-]{1,16}(/[a-z0-9_-]{1,16}){0,3})?\z`)
	valuePattern = regexp.MustCompile(`\A[ -~]{0,32}\z`)
)

// fault: an error, and whether there is cause for it.
type fault struct {
	holds bool
	err   api.Errno
}

// firstOf: the first error for which there is cause.
func firstOf(l ...fault) api.Errno {
	for _, f := range l {
		if f.holds {
			return f.err
		}
	}
	return api.OK
}

// chargeOf: 1 and how many blocks it has, of each content.
func chargeOf(x api.Tenant) int {
	sum := 0
	for _, s := range x.Sets {
		sum += 1 + len(s.Body)
		for _, n := range s.Snaps {
			sum += 1 + len(n.Body)
		}
	}
	for _, s := range x.Stages {
		sum += 1 + len(s.Body)
	}
	return sum
}

func tooMuch(x api.Tenant) fault {
	return fault{chargeOf(x) > x.Quota, api.ErrQuota}
}

// heads: what is asked first of a tenant and a path.
func heads(x api.Tenant, path string) []fault {
	return []fault{
		{tree.Check(x) != api.OK, api.ErrState},
		{!pathPattern.MatchString(path), api.ErrName},
	}
}

func isThere(x api.Tenant, path string) bool {
	return slices.Contains(pathsOf(x), path)
}

// answer: the tenant if there is no fault, else a zero one and the first's
// error.
func answer(x api.Tenant, l ...fault) (api.Tenant, api.Errno) {
	if err := firstOf(l...); err != api.OK {
		return api.Tenant{}, err
	}
	return x, api.OK
}

func wantCreate(x api.Tenant, path string) (api.Tenant, api.Errno) {
	parent := path
	for parent != "" && !strings.HasSuffix(parent, "/") {
		parent = parent[:len(parent)-1]
	}
	parent = strings.TrimSuffix(parent, "/")
	faults := append(heads(x, path),
		fault{isThere(x, path), api.ErrTwice},
		fault{!isThere(x, parent), api.ErrNone},
		fault{len(x.Sets) == maxSets, api.ErrCount},
	)
	x = deep(x, 0)
	x.Sets = append(x.Sets, api.Set{Path: path})
	slices.SortStableFunc(x.Sets, func(a, b api.Set) int { return strings.Compare(a.Path, b.Path) })
	return answer(x, append(faults, tooMuch(x))...)
}

// busy: whether something hangs on the set of that path.
func busy(x api.Tenant, path string) bool {
	hangs := path == ""
	for _, s := range x.Sets {
		hangs = hangs || strings.HasPrefix(s.Path, path+"/") || strings.HasPrefix(s.Origin, path+"@")
	}
	for _, s := range x.Stages {
		hangs = hangs || s.Into == path
	}
	return hangs
}

// held: whether the set of that path has a snapshot with a tag.
func held(x api.Tenant, path string) bool {
	tags := 0
	for _, s := range x.Sets {
		for _, n := range s.Snaps {
			if s.Path == path {
				tags += len(n.Tags)
			}
		}
	}
	return tags > 0
}

func wantDestroy(x api.Tenant, path string) (api.Tenant, api.Errno) {
	faults := append(heads(x, path),
		fault{!isThere(x, path), api.ErrNone},
		fault{busy(x, path), api.ErrBusy},
		fault{held(x, path), api.ErrHeld},
	)
	x = deep(x, 0)
	x.Sets = slices.DeleteFunc(x.Sets, func(s api.Set) bool { return s.Path == path })
	return answer(x, faults...)
}

// rewritten: the tenant, with what a table of the blocks of that path's set is
// behind do.
func rewritten(x api.Tenant, path string, do func(table map[int]string)) api.Tenant {
	x = deep(x, 0)
	for i, s := range x.Sets {
		if s.Path != path {
			continue
		}
		table := map[int]string{}
		for _, b := range s.Body {
			table[b.Index] = b.Data
		}
		do(table)
		x.Sets[i].Body = nil
		for _, index := range slices.Sorted(maps.Keys(table)) {
			x.Sets[i].Body = append(x.Sets[i].Body, api.Block{Index: index, Data: table[index]})
		}
	}
	return x
}

func wantWrite(x api.Tenant, path string, index int, data string) (api.Tenant, api.Errno) {
	faults := append(heads(x, path),
		fault{!isThere(x, path), api.ErrNone},
		fault{index < 0 || index > 1023, api.ErrRange},
		fault{len(data) != 16, api.ErrLong},
	)
	x = rewritten(x, path, func(table map[int]string) { table[index] = data })
	return answer(x, append(faults, tooMuch(x))...)
}

func wantFree(x api.Tenant, path string, index, count int) (api.Tenant, api.Errno) {
	wrong := index < 0 || index > 1023 || count < 1 || count > 1024-index
	faults := append(heads(x, path),
		fault{!isThere(x, path), api.ErrNone},
		fault{wrong, api.ErrRange},
	)
	x = rewritten(x, path, func(table map[int]string) {
		for i := range 1024 {
			if !wrong && i >= index && i < index+count {
				delete(table, i)
			}
		}
	})
	return answer(x, faults...)
}

// ownAt: the Values of the set of that path, by their names.
func ownAt(x api.Tenant, path string) map[string]string {
	out := map[string]string{}
	for _, s := range x.Sets {
		for _, p := range s.Own {
			if s.Path == path {
				out[p.Name] = p.Value
			}
		}
	}
	return out
}

// renamed: the tenant, that set's Own as the table has it.
func renamed(x api.Tenant, path string, table map[string]string) api.Tenant {
	x = deep(x, 0)
	for i, s := range x.Sets {
		if s.Path != path {
			continue
		}
		x.Sets[i].Own = nil
		for _, name := range slices.Sorted(maps.Keys(table)) {
			x.Sets[i].Own = append(x.Sets[i].Own, api.Prop{Name: name, Value: table[name]})
		}
	}
	return x
}

func wantSet(x api.Tenant, path, name, value string) (api.Tenant, api.Errno) {
	table := ownAt(x, path)
	table[name] = value
	return answer(renamed(x, path, table), append(heads(x, path),
		fault{!isThere(x, path), api.ErrNone},
		fault{!namePattern.MatchString(name), api.ErrName},
		fault{!valuePattern.MatchString(value), api.ErrState},
		fault{len(table) > maxProps, api.ErrCount},
	)...)
}

func wantUnset(x api.Tenant, path, name string) (api.Tenant, api.Errno) {
	table := ownAt(x, path)
	_, is := table[name]
	delete(table, name)
	return answer(renamed(x, path, table), append(heads(x, path),
		fault{!isThere(x, path), api.ErrNone},
		fault{!is, api.ErrNone},
	)...)
}

func wantSettle(x api.Tenant) (api.Tenant, api.Errno) {
	return answer(x, heads(x, "")[0], tooMuch(x))
}

// wantWith: one by one, s as soon as one is not below.
func wantWith(x api.Tenant, s api.Set) api.Tenant {
	var sets []api.Set
	put := false
	for _, other := range x.Sets {
		if !put && strings.Compare(other.Path, s.Path) >= 0 {
			sets = append(sets, s)
			put = true
		}
		sets = append(sets, other)
	}
	if !put {
		sets = append(sets, s)
	}
	x.Sets = sets
	return x
}

// ask: a call with all that it is handed but for the tenant, and what the words
// tell of it.
type ask struct {
	what string
	call func(x api.Tenant) (api.Tenant, api.Errno)
	want func(x api.Tenant) (api.Tenant, api.Errno)
}

func create(path string) ask {
	return ask{"Create of " + brief(path),
		func(x api.Tenant) (api.Tenant, api.Errno) { return shape.Create(x, path) },
		func(x api.Tenant) (api.Tenant, api.Errno) { return wantCreate(x, path) }}
}

func destroy(path string) ask {
	return ask{"Destroy of " + brief(path),
		func(x api.Tenant) (api.Tenant, api.Errno) { return shape.Destroy(x, path) },
		func(x api.Tenant) (api.Tenant, api.Errno) { return wantDestroy(x, path) }}
}

func write(path string, index int, data string) ask {
	return ask{"Write at " + brief([]any{path, index, data}),
		func(x api.Tenant) (api.Tenant, api.Errno) { return shape.Write(x, path, index, data) },
		func(x api.Tenant) (api.Tenant, api.Errno) { return wantWrite(x, path, index, data) }}
}

func free(path string, index, count int) ask {
	return ask{"Free at " + brief([]any{path, index, count}),
		func(x api.Tenant) (api.Tenant, api.Errno) { return shape.Free(x, path, index, count) },
		func(x api.Tenant) (api.Tenant, api.Errno) { return wantFree(x, path, index, count) }}
}

func set(path, name, value string) ask {
	return ask{"Set at " + brief([]any{path, name, value}),
		func(x api.Tenant) (api.Tenant, api.Errno) { return shape.Set(x, path, name, value) },
		func(x api.Tenant) (api.Tenant, api.Errno) { return wantSet(x, path, name, value) }}
}

func unset(path, name string) ask {
	return ask{"Unset at " + brief([]any{path, name}),
		func(x api.Tenant) (api.Tenant, api.Errno) { return shape.Unset(x, path, name) },
		func(x api.Tenant) (api.Tenant, api.Errno) { return wantUnset(x, path, name) }}
}

func settle() ask {
	return ask{"Settle", shape.Settle, wantSettle}
}

// mustAnswer: the call answers what the words tell, and leaves what it was
// handed as it was. It answers what the call did.
func mustAnswer(t *testing.T, what string, x api.Tenant, a ask) (api.Tenant, api.Errno) {
	t.Helper()
	ahead := whole(&x)
	want, wantErr := a.want(x)
	got, err := a.call(x)
	if err != wantErr || !one(got, want) {
		t.Fatalf("%s, %s: error %d and %s, want %d and %s", what, a.what, err, brief(got), wantErr, brief(want))
	}
	if whole(&x) != ahead {
		t.Fatalf("%s, %s: what was handed in was changed", what, a.what)
	}
	return got, err
}

// mustRefuse: the call answers that error and a zero tenant.
func mustRefuse(t *testing.T, what string, x api.Tenant, a ask, want api.Errno) {
	t.Helper()
	if got, err := mustAnswer(t, what, x, a); err != want || !one(got, api.Tenant{}) {
		t.Errorf("%s, %s: error %d and %s, want %d", what, a.what, err, brief(got), want)
	}
}

// mustBe: the call answers that tenant.
func mustBe(t *testing.T, what string, x api.Tenant, a ask, want api.Tenant) {
	t.Helper()
	if got, err := mustAnswer(t, what, x, a); err != api.OK || !one(got, want) {
		t.Errorf("%s, %s: error %d and %s, want %s", what, a.what, err, brief(got), brief(want))
	}
}

// mustWith: With answers what the words tell, and leaves what it was handed as
// it was.
func mustWith(t *testing.T, what string, x api.Tenant, s api.Set) {
	t.Helper()
	ahead, set := whole(&x), whole(&s)
	want := wantWith(x, s)
	if got := shape.With(x, s); !one(got, want) {
		t.Fatalf("%s, With %q: %s, want %s", what, s.Path, brief(got), brief(want))
	}
	if whole(&x) != ahead || whole(&s) != set {
		t.Fatalf("%s, With %q: what was handed in was changed", what, s.Path)
	}
}
