package snaps_test

import (
	"fmt"
	"math"
	"math/rand"
	"slices"
	"strings"
	"testing"

	"godown/api"
	"godown/shape"
	"godown/snaps"
	"godown/tree"
	"godown/usage"
)

// P17.2: behind a rollback there is nothing changed; and what follows of the
// calls one behind the other

// mustBeUnchanged: the set of that path is as the snapshot has it.
func mustBeUnchanged(t *testing.T, what string, x api.Tenant, path, name string) {
	t.Helper()
	s := x.Sets[tree.Find(x, path)]
	n := s.Snaps[tree.Snap(s, name)]
	if got := usage.Changed(s); got != 0 {
		t.Fatalf("%s: %d blocks are changed", what, got)
	}
	if !one(s.Body, n.Body) || !one(s.Own, n.Own) {
		t.Fatalf("%s: the set is not what its snapshot is: %s", what, brief(s))
	}
}

// TestNothingIsChanged: of full, whatever was written ahead.
func TestNothingIsChanged(t *testing.T) {
	for _, n := range []snapOf{{"", "monday"}, {"alpha", "friday"}, {"alpha/one/two", "tuesday"}, {"beta", "new"}, {"beta-2", "seen"}} {
		for i, body := range [][]api.Block{nil, content(0), content(3), content(5, 6, 1023), {at(3, 4), at(5, 6)}, span(0, 1024)} {
			x := full()
			x.Quota = 5000
			place := tree.Find(x, n.Path)
			x.Sets[place].Body, x.Sets[place].Own = body, ownOf(i)
			got := mustAnswer(t, "written", x, rollback(n.Path, n.Name))
			if got.Err != api.OK {
				t.Fatalf("%v: %d", n, got.Err)
			}
			mustBeUnchanged(t, n.Path, got.Tenant, n.Path, n.Name)
		}
	}
}

// TestNothingIsChangedByChance: behind a rollback of any tenant; and the
// properties that are over all follow.
func TestNothingIsChangedByChance(t *testing.T) {
	r := rand.New(rand.NewSource(172))
	met, changed := 0, 0
	for range 90 {
		x := someTenant(r)
		for _, s := range x.Sets {
			if len(s.Snaps) == 0 {
				continue
			}
			last := s.Snaps[len(s.Snaps)-1]
			got := mustAnswer(t, "by chance", x, rollback(s.Path, last.Name))
			if got.Err != api.OK {
				continue
			}
			met++
			if usage.Changed(s) > 0 {
				changed++
			}
			mustBeUnchanged(t, "by chance", got.Tenant, s.Path, last.Name)
			if again := mustAnswer(t, "a second time", got.Tenant, rollback(s.Path, last.Name)); !one(again, got) {
				t.Fatal("a second rollback changes something")
			}
		}
	}
	if met < 150 || changed < 100 {
		t.Errorf("just %d rollbacks, of which %d changed blocks", met, changed)
	}
}

// TestThereAndBack: what is made and is gone again leaves all as it was, but
// Next; what is called otherwise and again as it was, all.
func TestThereAndBack(t *testing.T) {
	r := rand.New(rand.NewSource(173))
	met := map[string]int{}
	back := func(x api.Tenant, there, back ask, same func(y *api.Tenant)) {
		t.Helper()
		y := mustAnswer(t, "there", x, there)
		if y.Err != api.OK {
			return
		}
		if one(x, y.Tenant) {
			t.Fatalf("%s changes nothing", there.what)
		}
		z := mustAnswer(t, "back", y.Tenant, back)
		if same(&z.Tenant); z.Err != api.OK || !one(z.Tenant, x) {
			t.Fatalf("%s, %s: %d, %s behind %s", there.what, back.what, z.Err, brief(z.Tenant), brief(x))
		}
		call, _, _ := strings.Cut(there.what, " ")
		met[call]++
	}
	for range 120 {
		x := someTenant(r)
		next := func(y *api.Tenant) { y.Next = x.Next }
		path := pick(r, pathsOf(x))
		back(x, snapshot(path, "new"), destroy(path, "new"), next)
		s := x.Sets[tree.Find(x, path)]
		back(x, snapshot(path, "new"), rollback(path, "new"), func(y *api.Tenant) {
			next(y)
			set := &y.Sets[tree.Find(*y, path)]
			set.Snaps = set.Snaps[:len(s.Snaps)]
		})
		for _, n := range s.Snaps {
			back(x, rename(path, n.Name, "new"), rename(path, "new", n.Name), func(y *api.Tenant) {})
			to := strings.TrimPrefix(path+"/new", "/")
			y := mustAnswer(t, "clone", x, clone(path, n.Name, to))
			if y.Err != api.OK {
				continue
			}
			met["Clone"]++
			mustRefuse(t, "it has a clone", y.Tenant, destroy(path, n.Name), api.ErrBusy)
			y.Tenant.Stages = nil
			z, err := shape.Destroy(y.Tenant, to)
			z.Stages = x.Stages
			if err != api.OK || !one(z, x) {
				t.Fatalf("Clone and gone: %d, %s behind %s", err, brief(z), brief(x))
			}
		}
	}
	for _, call := range []string{"Snapshot", "Rename", "Clone"} {
		if met[call] < 60 {
			t.Errorf("%s: just %d", call, met[call])
		}
	}
}

// TestRenameKeepsWhatHangsOnIt: with another name the calls are answered as they
// were with the old one.
func TestRenameKeepsWhatHangsOnIt(t *testing.T) {
	r := rand.New(rand.NewSource(174))
	for range 120 {
		x := someTenant(r)
		all := snapsAll(x)
		if len(all) == 0 {
			continue
		}
		n := pick(r, all)
		y := mustAnswer(t, "by chance", x, rename(n.Path, n.Name, "new"))
		if y.Err != api.OK || !slices.Equal(tree.Clones(y.Tenant, n.Path, "new"), tree.Clones(x, n.Path, n.Name)) {
			t.Fatalf("the clones are others: %d", y.Err)
		}
		if len(tree.Clones(y.Tenant, n.Path, n.Name)) > 0 || usage.Tenant(y.Tenant) != usage.Tenant(x) {
			t.Fatal("something stays of the old name")
		}
		for _, two := range [][2]ask{
			{destroy(n.Path, n.Name), destroy(n.Path, "new")},
			{rollback(n.Path, n.Name), rollback(n.Path, "new")},
			{snapshot(n.Path, n.Name), snapshot(n.Path, "new")},
			{clone(n.Path, n.Name, "zz"), clone(n.Path, "new", "zz")},
		} {
			a, b := mustAnswer(t, "old", x, two[0]), mustAnswer(t, "new", y.Tenant, two[1])
			if a.Err != b.Err || a.Guid != b.Guid || usage.Tenant(a.Tenant) != usage.Tenant(b.Tenant) {
				t.Fatalf("%s: %d and %d", two[0].what, a.Err, b.Err)
			}
		}
	}
}

// TestGuidsRise: of a new tenant no two snapshots have one Guid, whatever goes
// between.
func TestGuidsRise(t *testing.T) {
	r := rand.New(rand.NewSource(175))
	for range 60 {
		x, last := alone(500), 0
		x.Next = 1 + r.Intn(3)
		for range 60 {
			a := someAsk(r, x)
			got := mustAnswer(t, "a history", x, a)
			if got.Err != api.OK {
				continue
			}
			if got.Guid > 0 {
				if got.Guid <= last || got.Tenant.Next != got.Guid+1 {
					t.Fatalf("Guid %d behind %d, Next %d", got.Guid, last, got.Tenant.Next)
				}
				last = got.Guid
			}
			x = got.Tenant
		}
	}
}

// someAsk: a call, most often one that the tenant can answer without an error.
func someAsk(r *rand.Rand, x api.Tenant) ask {
	path := pick(r, append(pathsOf(x), pick(r, stock)))
	name, to := pick(r, stock), pick(r, append(stock, "zz", "z-2"))
	if r.Intn(4) > 0 {
		if all := snapsAll(x); len(all) > 0 {
			n := pick(r, all)
			path, name = n.Path, n.Name
		}
	}
	switch r.Intn(40) {
	case 0:
		path = pick(r, noPaths())
	case 1:
		name = pick(r, noSnapNames())
	case 2:
		to = pick(r, noSnapNames())
	}
	switch r.Intn(8) {
	case 0, 1:
		if r.Intn(3) > 0 {
			name = to
		}
		return snapshot(path, name)
	case 2:
		return destroy(path, name)
	case 3, 4:
		// Often the last one, which alone can be rolled back to.
		if at := tree.Find(x, path); at >= 0 && len(x.Sets[at].Snaps) > 0 && r.Intn(2) == 0 {
			name = x.Sets[at].Snaps[len(x.Sets[at].Snaps)-1].Name
		}
		return rollback(path, name)
	case 5:
		return rename(path, name, to)
	}
	if under := pick(r, pathsOf(x)); r.Intn(4) > 0 {
		to = strings.TrimPrefix(under+"/"+to, "/")
	}
	return clone(path, name, pick(r, []string{to, to, to, to, to, ""}))
}

// mustFollow: the call answers what the words tell, and a second time the same;
// a tenant that may be becomes one that may be, that fits if it did, or if it
// was settled.
func mustFollow(t *testing.T, x api.Tenant, a ask) reply {
	t.Helper()
	got := mustAnswer(t, "a history", x, a)
	if again := a.call(x); !one(again, got) {
		t.Fatalf("%s: %d the first time, %d the second", a.what, got.Err, again.Err)
	}
	if got.Err != api.OK {
		got.Tenant = x
		return got
	}
	settles := !strings.HasPrefix(a.what, "Destroy") && !strings.HasPrefix(a.what, "Rename")
	if tree.Check(got.Tenant) != api.OK {
		t.Fatalf("%s makes a tenant that may not be: %s", a.what, brief(got.Tenant))
	}
	if (settles || usage.Fits(x)) && !usage.Fits(got.Tenant) {
		t.Fatalf("%s makes a tenant that does not fit: %s", a.what, brief(got.Tenant))
	}
	return got
}

// between: sets are made, written and gone, and tags put, as other layers do.
func between(r *rand.Rand, x api.Tenant) api.Tenant {
	path := pick(r, pathsOf(x))
	y, err := shape.Write(x, path, r.Intn(9), text(r.Intn(3)))
	switch r.Intn(7) {
	case 0:
		y, err = shape.Free(x, path, r.Intn(9), 3)
	case 1:
		y, err = shape.Set(x, path, pick(r, stock), "on")
	case 2:
		y, err = shape.Create(x, strings.TrimPrefix(path+"/"+pick(r, stock), "/"))
	case 3:
		y, err = shape.Destroy(x, path)
	case 4:
		y, err = tree.Copy(x), api.OK
		for i := range y.Sets {
			if n := y.Sets[i].Snaps; len(n) > 0 {
				n[r.Intn(len(n))].Tags = part(r, stock, r.Intn(3))
			}
		}
	case 5:
		y, err = tree.Copy(x), api.OK
		y.Quota = max(chargeOf(x)+r.Intn(9)-1, 1)
	}
	if err != api.OK {
		return x
	}
	return y
}

// TestHistories: of tenants made by chance, and of new ones.
func TestHistories(t *testing.T) {
	r := rand.New(rand.NewSource(176))
	met := map[string]map[api.Errno]int{}
	for i := range 60 {
		x := someTenant(r)
		if i%4 == 0 {
			x = alone(pick(r, []int{1, 5, 40, 500}))
		}
		for range 60 {
			a := someAsk(r, x)
			got := mustFollow(t, x, a)
			call, _, _ := strings.Cut(a.what, " ")
			if met[call] == nil {
				met[call] = map[api.Errno]int{}
			}
			met[call][got.Err]++
			x = between(r, got.Tenant)
		}
	}
	for call, want := range map[string][]api.Errno{
		"Snapshot": {api.OK, api.ErrName, api.ErrNone, api.ErrTwice, api.ErrCount, api.ErrOver, api.ErrQuota},
		"Destroy":  {api.OK, api.ErrName, api.ErrNone, api.ErrBusy, api.ErrHeld},
		"Rollback": {api.OK, api.ErrName, api.ErrNone, api.ErrBusy, api.ErrQuota},
		"Clone":    {api.OK, api.ErrName, api.ErrNone, api.ErrTwice, api.ErrCount, api.ErrQuota},
		"Rename":   {api.OK, api.ErrName, api.ErrNone, api.ErrTwice},
	} {
		for _, err := range want {
			if met[call][err] < 3 {
				t.Errorf("%s was answered %d just %d times", call, err, met[call][err])
			}
		}
	}
}

// TestTheChargeFollows: a snapshot is charged for what its set has, a clone for
// what its snapshot has, and what goes for no more.
func TestTheChargeFollows(t *testing.T) {
	r := rand.New(rand.NewSource(177))
	for range 25 {
		x := someTenant(r)
		x.Quota = maxAmount
		ahead := usage.Tenant(x)
		must := func(what string, y api.Tenant, err api.Errno, more int) {
			t.Helper()
			if err == api.OK && usage.Tenant(y) != ahead+more {
				t.Fatalf("%s: %d behind %d, want %d more", what, usage.Tenant(y), ahead, more)
			}
		}
		for _, s := range x.Sets {
			y, _, err := snaps.Snapshot(x, s.Path, "new")
			must("Snapshot", y, err, usage.Body(s.Body))
			for _, n := range s.Snaps {
				y, err := snaps.Destroy(x, s.Path, n.Name)
				must("Destroy", y, err, -usage.Body(n.Body))
				y, err = snaps.Rollback(x, s.Path, n.Name)
				must("Rollback", y, err, len(n.Body)-len(s.Body))
				y, err = snaps.Clone(x, s.Path, n.Name, "zz")
				must("Clone", y, err, usage.Body(n.Body))
				y, err = snaps.Rename(x, s.Path, n.Name, "new")
				must("Rename", y, err, 0)
			}
		}
	}
}

// TestWhatIsRefusedChangesNothing: each error of each call, of tenants with
// room behind their lists; a call that comes later is answered as it would have
// been.
func TestWhatIsRefusedChangesNothing(t *testing.T) {
	later := []ask{snapshot("alpha", "new"), destroy("beta", "old"), rollback("alpha", "friday"), clone("alpha", "friday", "zz"), rename("alpha", "friday", "a")}
	met := map[api.Errno]int{}
	for what, x := range tenants() {
		for i, a := range asks() {
			x := deep(x, 2)
			ahead := whole(&x)
			got := a.call(x)
			if met[got.Err]++; got.Err == api.OK {
				continue
			}
			if !one(got, reply{Err: got.Err}) || whole(&x) != ahead {
				t.Fatalf("%s, %s: something is changed or answered", what, a.what)
			}
			b := later[i%len(later)]
			mustAnswer(t, what+", behind "+a.what, x, b)
		}
	}
	for _, err := range []api.Errno{api.ErrState, api.ErrName, api.ErrNone, api.ErrTwice, api.ErrCount, api.ErrOver, api.ErrQuota, api.ErrBusy, api.ErrHeld} {
		if met[err] == 0 {
			t.Errorf("no call was answered %d", err)
		}
	}
}

// TestEachTenantIsAnswered: each call of each tenant, as the words tell it.
func TestEachTenantIsAnswered(t *testing.T) {
	for what, x := range tenants() {
		for _, a := range asks() {
			mustAnswer(t, what, x, a)
		}
		for _, n := range append(snapsAll(x), snapOf{"a", "a"}, snapOf{"", "z"}, snapOf{"plain", "n9"}) {
			for _, a := range []ask{snapshot(n.Path, n.Name), snapshot(n.Path, "z"), destroy(n.Path, n.Name), rollback(n.Path, n.Name), clone(n.Path, n.Name, "zz"), clone(n.Path, n.Name, "s03/a"), rename(n.Path, n.Name, "z"), rename(n.Path, n.Name, "friday")} {
				mustAnswer(t, what, x, a)
			}
		}
	}
}

// worldOf: a tenant of a few sets, each bit of the number a cause or none.
func worldOf(world int) api.Tenant {
	is := func(bit int) bool { return world>>bit&1 == 1 }
	x := alone(9)
	x.Next = 4
	x.Sets = setsAt("", "a", "b")
	x.Sets[1].Snaps = []api.Snap{{Name: "a", Guid: 1}, {Name: "b", Guid: 2, Body: content(1)}}
	if is(0) {
		x.Sets[0].Snaps = []api.Snap{{Name: "b", Guid: 3, Own: own("a=b")}}
	}
	for bit, origin := range []string{"a@a", "a@b"} {
		if is(1 + bit) {
			x.Sets[2*bit].Origin = origin
		}
		if is(3 + bit) {
			x.Sets[1].Snaps[bit].Tags = []string{"a"}
		}
	}
	if is(5) {
		x.Sets[1].Body = content(1, 2)
	}
	if is(6) {
		x.Sets = slices.Insert(x.Sets, 2, api.Set{Path: "a/b"})
	}
	return x
}

// TestEachWorld: each call of all these, at each quota about the charge.
func TestEachWorld(t *testing.T) {
	met := map[api.Errno]int{}
	for world := range 1 << 7 {
		x := worldOf(world)
		if tree.Check(x) != api.OK {
			t.Fatalf("world %d may not be", world)
		}
		for spare := -1; spare <= 2; spare++ {
			x.Quota = chargeOf(x) + spare
			for _, path := range []string{"", "a", "a/b", "b", "c"} {
				for _, name := range []string{"a", "b", "c"} {
					asks := []ask{snapshot(path, name), destroy(path, name), rollback(path, name)}
					for _, to := range []string{"", "a/b", "c", "c/d"} {
						asks = append(asks, clone(path, name, to))
					}
					for _, to := range []string{"a", "b", "c"} {
						asks = append(asks, rename(path, name, to))
					}
					for _, a := range asks {
						met[mustAnswer(t, fmt.Sprintf("world %d", world), x, a).Err]++
					}
				}
			}
		}
	}
	for _, err := range []api.Errno{api.OK, api.ErrTwice, api.ErrNone, api.ErrBusy, api.ErrHeld, api.ErrQuota} {
		if met[err] < 5 {
			t.Errorf("%d was answered just %d times", err, met[err])
		}
	}
}

// TestAnything: tenants of which leaves and lists are changed by chance, and
// arguments of any kind: each call answers as the words tell it.
func TestAnything(t *testing.T) {
	r := rand.New(rand.NewSource(178))
	numbers := []int{math.MinInt, math.MinInt + 1, -maxAmount, -1, 0, 1, 2, 7, 15, 16, 17, 1023, 1024, 1 << 32, maxAmount - 1, maxAmount, maxAmount + 1, math.MaxInt - 1, math.MaxInt}
	texts := slices.Concat(stock, noNames(), noPaths(), []string{"", text(1), "a/b", "@a", "a@a", "a@b", strings.Repeat("\xff", 40)})
	met := map[api.Errno]int{}
	for range 150 {
		x := someTenant(r)
		spoil(r, &x, r.Intn(4), numbers, texts)
		for range 4 {
			n := snapOf{pick(r, texts), pick(r, texts)}
			if all := snapsAll(x); len(all) > 0 && r.Intn(4) > 0 {
				n = pick(r, all)
			}
			for _, a := range []ask{
				snapshot(n.Path, n.Name), snapshot(n.Path, pick(r, texts)), destroy(n.Path, n.Name), rollback(n.Path, n.Name),
				clone(n.Path, n.Name, pick(r, texts)), clone(n.Path, pick(r, stock), pick(r, stock)), rename(n.Path, n.Name, pick(r, texts)), someAsk(r, onto(x, func(x *api.Tenant) { x.Sets = append(setsAt(""), x.Sets...) })),
			} {
				met[mustAnswer(t, "anything", x, a).Err]++
			}
		}
	}
	for _, err := range []api.Errno{api.OK, api.ErrState, api.ErrName, api.ErrTwice, api.ErrNone, api.ErrCount, api.ErrOver, api.ErrQuota, api.ErrBusy, api.ErrHeld} {
		if met[err] < 5 {
			t.Errorf("%d was answered just %d times", err, met[err])
		}
	}
}
