package holds_test

import (
	"fmt"
	"math"
	"math/rand"
	"slices"
	"strings"
	"testing"

	"godown/api"
	"godown/holds"
	"godown/shape"
	"godown/snaps"
	"godown/tree"
	"godown/usage"
)

// P18.2: what is held is not destroyed; and what follows of the calls one behind
// the other

// mustDestroy: what snaps.Destroy answers of the snapshot, and shape.Destroy of
// its set; beside an error nothing else.
func mustDestroy(t *testing.T, what string, x api.Tenant, n snapOf, snap, set api.Errno) {
	t.Helper()
	ahead := whole(&x)
	y, err := snaps.Destroy(x, n.Path, n.Name)
	if err != snap || err != api.OK && !one(y, api.Tenant{}) {
		t.Fatalf("%s, the snapshot %s@%s: error %d, want %d", what, n.Path, n.Name, err, snap)
	}
	if err == api.OK && (snapIn(&y, n.Path, n.Name) != nil || len(snapsAll(y)) != len(snapsAll(x))-1) {
		t.Fatalf("%s, the snapshot %s@%s: it is not gone", what, n.Path, n.Name)
	}
	y, err = shape.Destroy(x, n.Path)
	if err != set || err != api.OK && !one(y, api.Tenant{}) {
		t.Fatalf("%s, the set %s: error %d, want %d", what, n.Path, err, set)
	}
	if err == api.OK && slices.Contains(pathsOf(y), n.Path) {
		t.Fatalf("%s, the set %s: it is not gone", what, n.Path)
	}
	if whole(&x) != ahead {
		t.Fatalf("%s: what was handed in was changed", what)
	}
}

// must: what the call answers, which is no error.
func must(t *testing.T, what string, x api.Tenant, a ask) api.Tenant {
	t.Helper()
	got := mustAnswer(t, what, x, a)
	if got.Err != api.OK {
		t.Fatalf("%s, %s: error %d", what, a.what, got.Err)
	}
	return got.Tenant
}

// orders: all in which these can stand.
func orders(l []string) [][]string {
	if len(l) == 0 {
		return [][]string{nil}
	}
	var out [][]string
	for i, first := range l {
		for _, rest := range orders(slices.Concat(l[:i], l[i+1:])) {
			out = append(out, append([]string{first}, rest...))
		}
	}
	return out
}

// TestWhatIsHeldIsNotDestroyed: from the first tag to the last one, whatever the
// order in which they come and go; the others go.
func TestWhatIsHeldIsNotDestroyed(t *testing.T) {
	all := orders(tags("a b c d"))
	for i, in := range all {
		out := all[(i*7+5)%len(all)]
		place := i % 3
		n := snapOf{"a", fmt.Sprintf("n%d", place+1)}
		x := row()
		mustDestroy(t, "no tag", x, n, api.OK, api.OK)
		for _, tag := range in {
			x = must(t, "held", x, hold(n.Path, n.Name, tag))
			mustDestroy(t, fmt.Sprintf("%s behind %v", tag, in), x, n, api.ErrHeld, api.ErrHeld)
		}
		if !one(x, tagged(place, tags("a b c d"))) {
			t.Fatalf("%v: the order counts", in)
		}
		for _, other := range snapsAll(x) {
			switch {
			case other == n:
			case other.Path == "a":
				mustDestroy(t, "another one of the set", x, other, api.OK, api.ErrHeld)
			case other.Path == "":
				mustDestroy(t, "the root's", x, other, api.OK, api.ErrBusy)
			default:
				mustDestroy(t, "another set's", x, other, api.OK, api.OK)
			}
		}
		for j, tag := range out {
			mustDestroy(t, fmt.Sprintf("%d of %v", j, out), x, n, api.ErrHeld, api.ErrHeld)
			x = must(t, "released", x, release(n.Path, n.Name, tag))
		}
		mustDestroy(t, "released", x, n, api.OK, api.OK)
		if !one(x, row()) {
			t.Fatalf("%v: something is left", out)
		}
	}
}

// TestWhatIsRefusedHoldsNothing: a tag that was refused does not hold, and one
// whose Release was refused does.
func TestWhatIsRefusedHoldsNothing(t *testing.T) {
	n := snapOf{"a", "n2"}
	for _, a := range []ask{hold("a", "n2", "A"), hold("a", "n4", "a"), hold("a/b", "n2", "a"), hold("a", "N2", "a"), hold("A", "n2", "a"), hold("a-", "n2", "a"), hold("a", "n3", "a")} {
		x := row()
		if got := mustAnswer(t, "no tag", x, a); got.Err == api.OK {
			x = got.Tenant // of another one
		}
		if _, err := snaps.Destroy(x, n.Path, n.Name); err != api.OK {
			t.Errorf("%s: the snapshot is not destroyed: %d", a.what, err)
		}
	}
	for _, a := range []ask{release("a", "n2", "b"), release("a", "n2", "A"), release("a", "n1", "a"), release("a-", "n2", "a"), release("", "n2", "a"), hold("a", "n2", "a")} {
		x := tagged(1, tags("a"))
		if got := mustAnswer(t, "a tag", x, a); got.Err == api.OK {
			t.Fatalf("%s is answered", a.what)
		}
		mustDestroy(t, a.what, x, n, api.ErrHeld, api.ErrHeld)
	}
}

func busyOr(busy bool, other api.Errno) api.Errno {
	if busy {
		return api.ErrBusy
	}
	return other
}

// TestEachOfFull: each snapshot with a tag and without.
func TestEachOfFull(t *testing.T) {
	for i, s := range full().Sets {
		for j := range s.Snaps {
			x := full()
			noTags(&x)
			n := snapOf{s.Path, s.Snaps[j].Name}
			// Clones; kids, clones and a stage: named ahead of tags.
			busySnap := slices.Contains([]snapOf{{"", "monday"}, {"alpha", "friday"}, {"beta", "old"}}, n)
			busySet := slices.Contains([]string{"", "alpha", "beta", "staged"}, s.Path)
			mustDestroy(t, "no tags", x, n, busyOr(busySnap, api.OK), busyOr(busySet, api.OK))
			y := must(t, "held", x, hold(n.Path, n.Name, "keep"))
			mustDestroy(t, "held", y, n, busyOr(busySnap, api.ErrHeld), busyOr(busySet, api.ErrHeld))
			if got := must(t, "released", y, release(n.Path, n.Name, "keep")); !one(got, x) || len(y.Sets[i].Snaps[j].Tags) != 1 {
				t.Errorf("%v: held and released it is another tenant", n)
			}
		}
	}
}

// TestOtherCallsKeepTags: what goes on with a snapshot and its set leaves it
// held; what is made of it is not.
func TestOtherCallsKeepTags(t *testing.T) {
	x := tagged(2, tags("a keep"))
	y, err := snaps.Rename(x, "a", "n3", "new")
	if err != api.OK {
		t.Fatal(err)
	}
	mustList(t, "another name", y, "a@new")
	mustDestroy(t, "another name", y, snapOf{"a", "new"}, api.ErrHeld, api.ErrHeld)
	mustRefuse(t, "another name", y, release("a", "n3", "a"), api.ErrNone)
	mustRefuse(t, "another name", y, hold("a", "new", "a"), api.ErrTwice)
	y, err = snaps.Rollback(x, "a", "n3")
	if err != api.OK {
		t.Fatal(err)
	}
	mustList(t, "rolled back", y, "a@n3")
	y, _, err = snaps.Snapshot(y, "a", "n4")
	if err != api.OK {
		t.Fatal(err)
	}
	mustList(t, "a later one", y, "a@n3")
	mustDestroy(t, "a later one", y, snapOf{"a", "n4"}, api.OK, api.ErrHeld)
	y, err = snaps.Clone(x, "a", "n3", "b/c")
	if err != api.OK {
		t.Fatal(err)
	}
	mustList(t, "a clone", y, "a@n3")
	mustDestroy(t, "a clone", y, snapOf{"a", "n3"}, api.ErrBusy, api.ErrBusy)
	y = must(t, "a clone", must(t, "a clone", y, release("a", "n3", "a")), release("a", "n3", "keep"))
	mustDestroy(t, "a clone, released", y, snapOf{"a", "n3"}, api.ErrBusy, api.ErrBusy)
}

// TestReleasedGoes: of any tenant, when nothing is held, nothing is ErrHeld.
func TestReleasedGoes(t *testing.T) {
	r := rand.New(rand.NewSource(182))
	met := map[api.Errno]int{}
	for range 60 {
		x := someTenant(r)
		for _, n := range snapsAll(x) {
			for _, tag := range snapIn(&x, n.Path, n.Name).Tags {
				_, err := snaps.Destroy(x, n.Path, n.Name)
				if err == api.OK || !holds.Held(x, n.Path, n.Name) {
					t.Fatalf("%v goes, though it is held", n)
				}
				met[err]++
				if _, err = shape.Destroy(x, n.Path); err == api.OK {
					t.Fatalf("%v goes with its set, though it is held", n)
				}
				x = must(t, "by chance", x, release(n.Path, n.Name, tag))
			}
			y, err := snaps.Destroy(x, n.Path, n.Name)
			met[err]++
			switch clones := tree.Clones(x, n.Path, n.Name); {
			case holds.Held(x, n.Path, n.Name) || err == api.ErrHeld:
				t.Fatalf("%v is held by nothing", n)
			case len(clones) == 0 && err != api.OK, len(clones) > 0 && err != api.ErrBusy:
				t.Fatalf("%v: %d", n, err)
			case err == api.OK:
				x = y
			}
		}
		mustList(t, "all released", x)
		for _, path := range pathsOf(x) {
			if _, err := shape.Destroy(x, path); err == api.ErrHeld {
				t.Fatalf("%q is held by nothing", path)
			}
		}
	}
	for _, err := range []api.Errno{api.OK, api.ErrBusy, api.ErrHeld} {
		if met[err] < 20 {
			t.Errorf("%d just %d times", err, met[err])
		}
	}
}

// TestAllAndHeld: of a tenant that may be All tells just of those that Held
// tells of, of each once.
func TestAllAndHeld(t *testing.T) {
	r := rand.New(rand.NewSource(183))
	for range 40 {
		x := someTenant(r)
		list := mustAnswer(t, "by chance", x, all()).List
		mustList(t, "by chance", x, list...)
		for _, path := range append(pathsOf(x), stock...) {
			for _, name := range stock {
				mustTell(t, "by chance", x, held(path, name), slices.Contains(list, path+"@"+name))
			}
		}
		if many := len(slices.Compact(slices.Sorted(slices.Values(list)))); many != len(list) {
			t.Fatalf("one is told twice: %q", list)
		}
	}
}

// TestThereAndBack: a tag that comes and goes leaves all as it was; what is
// charged does not hang on tags.
func TestThereAndBack(t *testing.T) {
	r := rand.New(rand.NewSource(184))
	met := map[string]int{}
	back := func(x api.Tenant, there, back ask) {
		t.Helper()
		y := mustAnswer(t, "there", x, there)
		if y.Err != api.OK {
			return
		}
		if one(x, y.Tenant) || usage.Tenant(x) != usage.Tenant(y.Tenant) || tree.Check(y.Tenant) != api.OK {
			t.Fatalf("%s: %s behind %s", there.what, brief(y.Tenant), brief(x))
		}
		if z := mustAnswer(t, "back", y.Tenant, back); !one(z, reply{Tenant: x}) {
			t.Fatalf("%s, %s: %s behind %s", there.what, back.what, brief(z), brief(x))
		}
		call, _, _ := strings.Cut(there.what, " ")
		met[call]++
	}
	for range 20 {
		x := someTenant(r)
		for _, n := range snapsAll(x) {
			for _, tag := range stock {
				back(x, hold(n.Path, n.Name, tag), release(n.Path, n.Name, tag))
				back(x, release(n.Path, n.Name, tag), hold(n.Path, n.Name, tag))
			}
		}
	}
	if met["Hold"] < 300 || met["Release"] < 60 {
		t.Errorf("just %v", met)
	}
}

// someAsk: a call, most often one that the tenant can answer without an error.
func someAsk(r *rand.Rand, x api.Tenant) ask {
	path, name, tag := pick(r, append(pathsOf(x), pick(r, stock))), pick(r, stock), pick(r, stock)
	if all := snapsAll(x); len(all) > 0 && r.Intn(5) > 0 {
		n := pick(r, all)
		path, name = n.Path, n.Name
		if l := snapIn(&x, path, name).Tags; len(l) > 0 && r.Intn(3) == 0 {
			tag = pick(r, l)
		}
	}
	switch r.Intn(60) {
	case 0:
		path = pick(r, noPaths())
	case 1:
		name = pick(r, noSnapNames())
	case 2:
		tag = pick(r, noSnapNames())
	}
	switch r.Intn(12) {
	case 0:
		return held(path, name)
	case 1:
		return all()
	case 2, 3, 4, 5:
		return release(path, name, tag)
	}
	return hold(path, name, tag)
}

// between: what other layers do to the tenant.
func between(r *rand.Rand, x api.Tenant) api.Tenant {
	path, n := pick(r, pathsOf(x)), snapOf{"", pick(r, stock)}
	if all := snapsAll(x); len(all) > 0 {
		n = pick(r, all)
	}
	y, _, err := snaps.Snapshot(x, path, pick(r, stock))
	switch r.Intn(9) {
	case 0, 1:
		y, err = snaps.Destroy(x, n.Path, n.Name)
	case 2:
		y, err = shape.Destroy(x, path)
	case 3:
		y, err = snaps.Rename(x, n.Path, n.Name, pick(r, stock))
	case 4:
		y, err = snaps.Rollback(x, n.Path, n.Name)
	case 5:
		y, err = snaps.Clone(x, n.Path, n.Name, strings.TrimPrefix(path+"/"+pick(r, stock), "/"))
	case 6:
		y, err = shape.Write(x, path, r.Intn(9), text(r.Intn(3)))
	}
	if err != api.OK {
		return x
	}
	return y
}

// guid: a snapshot, told whatever it is called.
type guid struct {
	Path string
	Guid int
}

// tagsAll: of each snapshot that has some.
func tagsAll(x api.Tenant) map[guid][]string {
	out := map[guid][]string{}
	for _, s := range x.Sets {
		for _, n := range s.Snaps {
			if len(n.Tags) > 0 {
				out[guid{s.Path, n.Guid}] = n.Tags
			}
		}
	}
	return out
}

// mustStay: all that were held still are, by the same tags; and no others are.
func mustStay(t *testing.T, ahead, behind map[guid][]string) {
	t.Helper()
	if len(behind) != len(ahead) {
		t.Fatalf("%d are held behind %d", len(behind), len(ahead))
	}
	for n, l := range ahead {
		if !slices.Equal(behind[n], l) {
			t.Fatalf("%v: %q behind %q", n, behind[n], l)
		}
	}
}

// TestHistories: of tenants made by chance, and of new ones. Each call answers
// what the words tell, and a second time the same; a tenant that may be becomes
// one that may be; what is held stays, whatever else is done.
func TestHistories(t *testing.T) {
	r := rand.New(rand.NewSource(185))
	met := map[string]map[api.Errno]int{"Hold": {}, "Release": {}}
	stayed := 0
	for i := range 60 {
		x := someTenant(r)
		if i%4 == 0 {
			x = alone(pick(r, []int{0, 1, 16}))
		}
		x.Quota = pick(r, []int{1, 40, 9999})
		for range 80 {
			a := someAsk(r, x)
			got := mustAnswer(t, "a history", x, a)
			if again := a.call(x); !one(again, got) {
				t.Fatalf("%s: %s the first time, %s the second", a.what, brief(got), brief(again))
			}
			call, _, _ := strings.Cut(a.what, " ")
			if m := met[call]; m != nil {
				m[got.Err]++
				if got.Err == api.OK {
					if tree.Check(got.Tenant) != api.OK {
						t.Fatalf("%s makes a tenant that may not be: %s", a.what, brief(got.Tenant))
					}
					x = got.Tenant
				}
			}
			ahead := tagsAll(x)
			x = between(r, x)
			mustStay(t, ahead, tagsAll(x))
			stayed += len(ahead)
		}
	}
	if stayed < 5000 {
		t.Errorf("just %d stayed", stayed)
	}
	for call, want := range map[string][]api.Errno{
		"Hold":    {api.OK, api.ErrName, api.ErrNone, api.ErrTwice, api.ErrCount},
		"Release": {api.OK, api.ErrName, api.ErrNone},
	} {
		for _, err := range want {
			if met[call][err] < 10 {
				t.Errorf("%s was answered %d just %d times", call, err, met[call][err])
			}
		}
	}
}

// TestEachTenantIsAnswered: each call of each tenant, as the words tell it.
func TestEachTenantIsAnswered(t *testing.T) {
	for what, x := range tenants() {
		for _, a := range append(asks(), looks()...) {
			mustAnswer(t, what, x, a)
		}
		for _, n := range append(snapsAll(x), snapOf{"a", "a"}, snapOf{"", "z"}, snapOf{"plain", "n9"}) {
			for _, tag := range tags("a aa bb cc dd ee keep zz") {
				mustAnswer(t, what, x, hold(n.Path, n.Name, tag))
				mustAnswer(t, what, x, release(n.Path, n.Name, tag))
			}
			mustAnswer(t, what, x, held(n.Path, n.Name))
		}
	}
}

// TestWhatIsRefusedChangesNothing: each error of each call, of tenants with room
// behind their lists; a call that comes later is answered as it would have been.
func TestWhatIsRefusedChangesNothing(t *testing.T) {
	later := []ask{hold("alpha", "monday", "gg"), hold("beta", "old", "keep"), release("alpha", "friday", "hh"), all(), held("alpha", "friday")}
	met := map[api.Errno]int{}
	for what, x := range tenants() {
		for i, a := range asks() {
			x := deep(x, 2)
			ahead := whole(&x)
			got := a.call(x)
			if met[got.Err]++; got.Err == api.OK {
				continue
			}
			if !one(got, reply{Err: got.Err}) || whole(&x) != ahead {
				t.Fatalf("%s, %s: something is changed or answered", what, a.what)
			}
			mustAnswer(t, what+", behind "+a.what, x, later[i%len(later)])
		}
	}
	for _, err := range []api.Errno{api.ErrState, api.ErrName, api.ErrNone, api.ErrTwice, api.ErrCount} {
		if met[err] == 0 {
			t.Errorf("no call was answered %d", err)
		}
	}
}

// TestAnything: tenants of which leaves and lists are changed by chance, and
// arguments of any kind: each call answers as the words tell it.
func TestAnything(t *testing.T) {
	r := rand.New(rand.NewSource(186))
	numbers := []int{math.MinInt, math.MinInt + 1, -maxAmount, -1, 0, 1, 2, 15, 16, 17, 1023, 1024, 1 << 32, maxAmount, maxAmount + 1, math.MaxInt - 1, math.MaxInt}
	texts := slices.Concat(stock, noNames(), noPaths(), []string{"", text(1), "a/b", "@a", "a@a", strings.Repeat("\xff", 40)})
	met := map[api.Errno]int{}
	for range 300 {
		x := someTenant(r)
		spoil(r, &x, r.Intn(4), numbers, texts)
		for range 6 {
			n := snapOf{pick(r, texts), pick(r, texts)}
			if all := snapsAll(x); len(all) > 0 && r.Intn(4) > 0 {
				n = pick(r, all)
			}
			for _, a := range []ask{
				hold(n.Path, n.Name, pick(r, texts)), hold(n.Path, n.Name, pick(r, stock)), hold(n.Path, pick(r, stock), "a"),
				release(n.Path, n.Name, pick(r, texts)), release(n.Path, n.Name, pick(r, stock)), release(pick(r, stock), n.Name, "a"),
				held(n.Path, n.Name), held(pick(r, texts), n.Name), all(),
			} {
				met[mustAnswer(t, "anything", x, a).Err]++
			}
		}
	}
	for _, err := range []api.Errno{api.OK, api.ErrState, api.ErrName, api.ErrTwice, api.ErrNone, api.ErrCount} {
		if met[err] < 20 {
			t.Errorf("%d was answered just %d times", err, met[err])
		}
	}
}
