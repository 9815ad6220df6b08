package shape_test

import (
	"fmt"
	"math"
	"math/rand"
	"slices"
	"strings"
	"testing"

	"godown/api"
	"godown/shape"
	"godown/tree"
	"godown/usage"
)

// P16.3: what is refused changes nothing; what is charged fits

// someAsk: a call, most often one that the tenant can answer without an error.
func someAsk(r *rand.Rand, x api.Tenant) ask {
	paths := append(pathsOf(x), pick(r, stock), "")
	path := pick(r, paths)
	switch r.Intn(30) {
	case 0:
		path = pick(r, noPaths())
	case 1:
		path += "/" + pick(r, stock)
	}
	index := pick(r, []int{0, 1, 2, 3, 4, 5, 6, 511, 1022, 1023, r.Intn(1024), pick(r, []int{-1, 1023, 1024})})
	data := text(r.Intn(3))
	if r.Intn(20) == 0 {
		data = pick(r, noData())
	}
	name := pick(r, append(stock, pick(r, noNames())))
	switch r.Intn(7) {
	case 0, 1:
		if under := pick(r, paths); r.Intn(5) > 0 {
			path = strings.TrimPrefix(under+"/"+pick(r, stock), "/")
		}
		return create(path)
	case 2:
		return destroy(path)
	case 3:
		return write(path, index, data)
	case 4:
		return free(path, index, pick(r, []int{1, 1, 2, 3, 1024 - index, 1025 - index, 0, r.Intn(1100)}))
	case 5:
		return set(path, name, pick(r, append(noValues(), "on", "off", "", "~ ~", strings.Repeat("v", 32))))
	}
	if own := ownAt(x, path); len(own) > 0 && r.Intn(3) > 0 {
		for _, name = range stock {
			if _, is := own[name]; is {
				break
			}
		}
	}
	return unset(path, name)
}

// mustFollow: the call answers what the words tell; a tenant that may be
// becomes one that may be, that fits if it did, or if it was settled; what is
// refused is answered a second time as it was the first.
func mustFollow(t *testing.T, x api.Tenant, a ask) (api.Tenant, api.Errno) {
	t.Helper()
	got, err := mustAnswer(t, "a history", x, a)
	if again, other := a.call(x); other != err || !one(again, got) {
		t.Fatalf("%s: %d the first time, %d the second", a.what, err, other)
	}
	if err != api.OK {
		return x, err
	}
	settles := strings.HasPrefix(a.what, "Create") || strings.HasPrefix(a.what, "Write") || a.what == "Settle"
	if tree.Check(got) != api.OK {
		t.Fatalf("%s makes a tenant that may not be: %s", a.what, brief(got))
	}
	if (settles || usage.Fits(x)) && !usage.Fits(got) {
		t.Fatalf("%s makes a tenant that does not fit: %s", a.what, brief(got))
	}
	return got, api.OK
}

// TestHistories: of tenants made by chance, and of new ones.
func TestHistories(t *testing.T) {
	r := rand.New(rand.NewSource(163))
	met := map[string]map[api.Errno]int{}
	for i := range 250 {
		x := someTenant(r)
		if i%4 == 0 {
			x = alone(pick(r, []int{1, 5, 40, 500}))
		}
		for range 60 {
			a := someAsk(r, x)
			if i%9 == 1 && r.Intn(15) == 0 {
				x.Quota = max(x.Quota-1, 0)
			}
			y, err := mustFollow(t, x, a)
			call, _, _ := strings.Cut(a.what, " ")
			if met[call] == nil {
				met[call] = map[api.Errno]int{}
			}
			met[call][err]++
			x = y
		}
		mustFollow(t, x, settle())
	}
	for call, want := range map[string][]api.Errno{
		"Create":  {api.OK, api.ErrName, api.ErrTwice, api.ErrNone, api.ErrCount, api.ErrQuota},
		"Destroy": {api.OK, api.ErrName, api.ErrNone, api.ErrBusy, api.ErrHeld},
		"Write":   {api.OK, api.ErrName, api.ErrNone, api.ErrRange, api.ErrLong, api.ErrQuota},
		"Free":    {api.OK, api.ErrName, api.ErrNone, api.ErrRange},
		"Set":     {api.OK, api.ErrName, api.ErrNone, api.ErrState, api.ErrCount},
		"Unset":   {api.OK, api.ErrName, api.ErrNone},
	} {
		for _, err := range want {
			if met[call][err] < 3 {
				t.Errorf("%s was answered %d just %d times", call, err, met[call][err])
			}
		}
	}
}

// TestTheChargeFollows: a set more is charged for 1, a block more for 1, and
// what goes is charged for no more.
func TestTheChargeFollows(t *testing.T) {
	r := rand.New(rand.NewSource(164))
	for range 300 {
		x := someTenant(r)
		x.Quota = maxAmount
		ahead := usage.Tenant(x)
		path := pick(r, pathsOf(x))
		set := x.Sets[tree.Find(x, path)]
		if y, err := shape.Create(x, strings.TrimPrefix(path+"/new", "/")); err == api.OK && usage.Tenant(y) != ahead+1 {
			t.Fatalf("Create: %d behind %d", usage.Tenant(y), ahead)
		}
		if y, err := shape.Destroy(x, path); err == api.OK && usage.Tenant(y) != ahead-usage.Set(set) {
			t.Fatalf("Destroy: %d behind %d", usage.Tenant(y), ahead)
		}
		if y, err := shape.Write(x, path, 600, text(1)); err != api.OK || usage.Tenant(y) != ahead+1 {
			t.Fatalf("Write: %d, %d behind %d", err, usage.Tenant(y), ahead)
		}
		for _, b := range set.Body {
			if y, err := shape.Write(x, path, b.Index, text(9)); err != api.OK || usage.Tenant(y) != ahead {
				t.Fatalf("Write of what is there: %d, %d behind %d", err, usage.Tenant(y), ahead)
			}
		}
		if y, err := shape.Free(x, path, 0, maxIndex); err != api.OK || usage.Tenant(y) != ahead-len(set.Body) {
			t.Fatalf("Free: %d, %d behind %d", err, usage.Tenant(y), ahead)
		}
		if y, err := shape.Set(x, path, "a", "new"); err == api.OK && usage.Tenant(y) != ahead {
			t.Fatalf("Set: %d behind %d", usage.Tenant(y), ahead)
		}
	}
}

// TestThereAndBack: what is made and is gone again leaves all as it was.
func TestThereAndBack(t *testing.T) {
	r := rand.New(rand.NewSource(165))
	back := func(x api.Tenant, there, back ask) {
		t.Helper()
		y, err := mustAnswer(t, "there", x, there)
		if err != api.OK {
			return
		}
		if one(x, y) {
			t.Fatalf("%s changes nothing", there.what)
		}
		if z, err := mustAnswer(t, "back", y, back); err != api.OK || !one(z, x) {
			t.Fatalf("%s, %s: %d, %s behind %s", there.what, back.what, err, brief(z), brief(x))
		}
	}
	for range 300 {
		x := someTenant(r)
		x.Stages = nil
		path := pick(r, pathsOf(x))
		kid := strings.TrimPrefix(path+"/new", "/")
		back(x, create(kid), destroy(kid))
		for _, index := range []int{6, 7, 600, 1000} {
			back(x, write(path, index, text(1)), free(path, index, 1))
		}
		back(x, set(path, "new", "1"), unset(path, "new"))
		for _, b := range x.Sets[tree.Find(x, path)].Body {
			back(x, write(path, b.Index, text(77)), write(path, b.Index, b.Data))
			if usage.Fits(x) {
				back(x, free(path, b.Index, 1), write(path, b.Index, b.Data))
			}
		}
		for name, value := range ownAt(x, path) {
			back(x, unset(path, name), set(path, name, value))
			back(x, set(path, name, "77"), set(path, name, value))
		}
	}
}

// TestWhatIsRefusedChangesNothing: each error of each call, of tenants with
// room behind their lists; a call that comes later is answered as it would have
// been.
func TestWhatIsRefusedChangesNothing(t *testing.T) {
	later := []ask{create("new"), destroy("gamma"), write("alpha", 3, text(9))}
	met := map[api.Errno]int{}
	for what, x := range tenants() {
		for _, a := range asks() {
			x := deep(x, 2)
			ahead := whole(&x)
			got, err := a.call(x)
			if met[err]++; err == api.OK {
				continue
			}
			if !one(got, api.Tenant{}) || whole(&x) != ahead {
				t.Fatalf("%s, %s: something is changed or answered", what, a.what)
			}
			for _, b := range later {
				mustAnswer(t, what+", behind "+a.what, x, b)
			}
		}
	}
	for _, err := range []api.Errno{api.ErrState, api.ErrName, api.ErrTwice, api.ErrNone, api.ErrCount, api.ErrQuota, api.ErrBusy, api.ErrHeld, api.ErrRange, api.ErrLong} {
		if met[err] == 0 {
			t.Errorf("no call was answered %d", err)
		}
	}
}

// TestEachTenantIsAnswered: each call of each tenant, as the words tell it.
func TestEachTenantIsAnswered(t *testing.T) {
	for what, x := range tenants() {
		for _, a := range asks() {
			mustAnswer(t, what, x, a)
		}
		for _, path := range append(pathsOf(x), "a/new", "z") {
			for _, a := range []ask{create(path), create(strings.TrimPrefix(path+"/new", "/")), destroy(path), write(path, 0, text(1)), write(path, 3, text(1)), free(path, 0, 1024), free(path, 3, 2), set(path, "atime", "x"), set(path, "p9", "x"), unset(path, "atime"), unset(path, "p3")} {
				mustAnswer(t, what, x, a)
			}
		}
	}
}

// TestEachWorld: Create and Destroy in all tenants of a few sets, each with and
// without each cause for which a set may not go.
func TestEachWorld(t *testing.T) {
	met := map[api.Errno]int{}
	for world := range 1 << 9 {
		is := func(bit int) bool { return world>>bit&1 == 1 }
		x := alone(8)
		x.Sets = setsAt("", "a", "b")
		if is(0) {
			x.Sets = slices.Insert(x.Sets, 2, api.Set{Path: "a/b"})
		}
		x.Sets[1].Snaps = []api.Snap{{Name: "a", Guid: 1}, {Name: "b", Guid: 2}}
		for bit, origin := range []string{"a@a", "a@b"} {
			if is(1 + bit) {
				x.Sets[len(x.Sets)-1].Origin = origin
			}
			if is(3 + bit) {
				x.Sets[1].Snaps[bit].Tags = []string{"a"}
			}
		}
		for bit, into := range []string{"a", "a/b", "b"} {
			if is(5 + bit) {
				x.Stages = append(x.Stages, stageInto(into))
			}
		}
		if is(8) {
			x.Grants = []api.Grant{{User: "a", Path: "a", Perms: 1}, {User: "a", Path: "b", Perms: 2}}
		}
		if tree.Check(x) != api.OK {
			t.Fatalf("world %d may not be", world)
		}
		for _, path := range []string{"", "a", "a/b", "a/b/c", "b", "b/a", "c", "c/d"} {
			for _, a := range []ask{create(path), destroy(path)} {
				_, err := mustAnswer(t, fmt.Sprintf("world %d", world), x, a)
				met[err]++
			}
		}
	}
	for _, err := range []api.Errno{api.OK, api.ErrTwice, api.ErrNone, api.ErrBusy, api.ErrHeld, api.ErrQuota} {
		if met[err] < 5 {
			t.Errorf("%d was answered just %d times", err, met[err])
		}
	}
}

// TestAnything: tenants of which leaves and lists are changed by chance, and
// arguments of any kind: each call answers as the words tell it.
func TestAnything(t *testing.T) {
	r := rand.New(rand.NewSource(166))
	numbers := []int{math.MinInt, math.MinInt + 1, -maxAmount, -1, 0, 1, 2, 7, 15, 16, 17, 1023, 1024, 1025, 1 << 32, maxAmount, maxAmount + 1, math.MaxInt - 1, math.MaxInt}
	texts := slices.Concat(stock, noNames(), noPaths(), noData(), noValues(), []string{"", text(1), "a/b", "@a", "a@a"})
	number := func() int {
		if r.Intn(3) == 0 {
			return int(r.Uint64())
		}
		return pick(r, numbers)
	}
	met := map[api.Errno]int{}
	for range 500 {
		x := someTenant(r)
		spoil(r, &x, r.Intn(4), numbers, texts)
		for range 4 {
			path := pick(r, append(pathsOf(x), pick(r, texts), pick(r, texts)))
			for _, a := range []ask{
				settle(), create(path), create(path + "/" + pick(r, stock)), destroy(path), someAsk(r, x),
				write(path, number(), pick(r, texts)), write(path, r.Intn(maxIndex), text(1)),
				free(path, number(), number()), free(path, pick(r, numbers), pick(r, numbers)),
				set(path, pick(r, texts), pick(r, texts)), unset(path, pick(r, texts)),
			} {
				_, err := mustAnswer(t, "anything", x, a)
				met[err]++
			}
			mustWith(t, "anything", x, api.Set{Path: path, Body: someBody(r), Own: someOwn(r)})
		}
		if len(x.Sets) > 0 {
			mustWith(t, "anything", x, pick(r, x.Sets))
		}
	}
	for _, err := range []api.Errno{api.OK, api.ErrState, api.ErrName, api.ErrTwice, api.ErrNone, api.ErrQuota, api.ErrBusy, api.ErrHeld, api.ErrRange, api.ErrLong} {
		if met[err] < 5 {
			t.Errorf("%d was answered just %d times", err, met[err])
		}
	}
}
