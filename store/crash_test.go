package store_test

import (
	"math/rand"
	"slices"
	"testing"

	"godown/api"
	"godown/device"
	"godown/store"
)

// P10.4

const eachChoice = 8 // writes that wait: of so many each choice is tried

// choices: of n writes that wait, which are kept: each choice of a few; of
// many none, all, each one alone, all but one, the first so many, and some
// more.
func choices(r *rand.Rand, n int) [][]bool {
	var out [][]bool
	add := func(kept func(i int) bool) {
		keep := make([]bool, n)
		for i := range keep {
			keep[i] = kept(i)
		}
		out = append(out, keep)
	}
	if n <= eachChoice {
		for mask := range 1 << n {
			add(func(i int) bool { return mask>>i&1 == 1 })
		}
		return out
	}
	add(func(int) bool { return false })
	add(func(int) bool { return true })
	for k := range n {
		add(func(i int) bool { return i == k })
		add(func(i int) bool { return i != k })
		add(func(i int) bool { return i < k })
	}
	for range 10 {
		add(func(int) bool { return r.Intn(2) == 0 })
	}
	return out
}

// mustBeOneOfBoth: what is opened behind a crash is the store ahead, or behind;
// ahead, while the uberblock was not written; behind, if all acts were done.
func mustBeOneOfBoth(t *testing.T, d api.Device, ahead, behind api.Store, cut int, acts []api.Act) api.Store {
	t.Helper()
	o, err := store.Open(d)
	if err != api.OK || !sameDevice(o.Dev, d) || store.Check(o) != api.OK {
		t.Fatalf("cut off at %d of %d: Open tells %d", cut, len(acts), err)
	}
	isAhead, isBehind := sameKept(o, ahead), sameKept(o, behind)
	if !isAhead && !isBehind {
		t.Fatalf("cut off at %d of %d: %v, neither %v nor %v", cut, len(acts), o.Uber, ahead.Uber, behind.Uber)
	}
	if cut == len(acts) && !isBehind {
		t.Fatalf("all %d acts are done: %v, not %v", cut, o.Uber, behind.Uber)
	}
	if cut <= len(acts)-2 && !isAhead {
		t.Fatalf("cut off at %d of %d: %v is there ahead of its uberblock", cut, len(acts), o.Uber)
	}
	return o
}

// crashes: a commit, cut off at every place; it answers what was opened.
func crashes(t *testing.T, r *rand.Rand, s api.Store, l []api.Object) []api.Store {
	t.Helper()
	behind, acts, err := store.Commit(s, l)
	if err != api.OK {
		t.Fatalf("Commit: %d", err)
	}
	var out []api.Store
	for cut := range len(acts) + 1 {
		d, err := device.Do(s.Dev, acts[:cut]...)
		if err != api.OK {
			t.Fatalf("the first %d acts: %d", cut, err)
		}
		for _, keep := range choices(r, len(d.Waits)) {
			c, _ := device.Crash(d, keep)
			out = append(out, mustBeOneOfBoth(t, c, s, behind, cut, acts))
		}
	}
	return out
}

// kinds: stores, and what is committed into them.
func kinds(t *testing.T) map[string]struct {
	s api.Store
	l []api.Object
} {
	l := objects(60, 0, 52, 105, 1)
	s := committed(t, 40, objects(9), l)
	longer := with(without(l, l[2].Key), object("b", 200))
	type kind = struct {
		s api.Store
		l []api.Object
	}
	return map[string]kind{
		"none into a new one":         {made(2), nil},
		"one into a new one":          {made(12), objects(1)},
		"one without Data":            {made(3), objects(0)},
		"several into a new one":      {made(40), l},
		"the same again":              {s, l},
		"one changed":                 {s, with(l, api.Object{Key: l[0].Key, Data: text(7, 60)})},
		"one longer":                  {s, with(l, api.Object{Key: l[4].Key, Data: text(7, 54)})},
		"one shorter":                 {s, with(l, api.Object{Key: l[3].Key, Data: text(7, 2)})},
		"one gone":                    {s, without(l, l[3].Key)},
		"one new":                     {s, with(l, object("b", 53))},
		"one gone, one new, one less": {s, longer[1:]},
		"all others":                  {s, objects(52, 53)},
		"all gone":                    {s, nil},
		"none again":                  {committed(t, 5, objects(1), nil), nil},
		"none, then some":             {committed(t, 40, l, nil), l},
		"with just room":              {committed(t, 4, objects(1), nil), objects(2)},
		"into one that stood":         {good(), with(good().Objects, object("bb", 53))},
		"to the last Txg":             {but(good(), func(s *api.Store) { *s = stood(20, maxAmount-1, s.Objects, s.Index...) }), objects(60)},
		"many pages":                  {committed(t, 200, objects(300, 300, 300)), objects(300, 301, 300)},
	}
}

func TestOneOfBoth(t *testing.T) {
	r := rand.New(rand.NewSource(105))
	for what, k := range kinds(t) {
		if len(crashes(t, r, k.s, k.l)) < 3 {
			t.Errorf("%s: hardly a crash", what)
		}
	}
}

// TestACommitBehindACrash: into each store that is opened behind a crash; the
// crash leaves pages in sectors that are free.
func TestACommitBehindACrash(t *testing.T) {
	r := rand.New(rand.NewSource(106))
	for what, k := range kinds(t) {
		for _, o := range crashes(t, r, k.s, k.l) {
			if o.Uber.Txg == maxAmount {
				continue
			}
			for _, l := range [][]api.Object{k.l, k.s.Objects} {
				out, acts, err := store.Commit(o, l)
				want, wantActs, wantErr := wantCommit(o, l)
				if err != wantErr || !same(out, want) || !sameActs(acts, wantActs) {
					t.Fatalf("%s: a commit behind a crash: %v, %d, want %v, %d", what, out.Uber, err, want.Uber, wantErr)
				}
				if err == api.OK {
					mustOpen(t, out.Dev, out, "a commit behind a crash")
				}
			}
		}
	}
}

// TestCrashesBehindCrashes: histories of commits, of which each may be cut off
// anywhere, in devices with little room.
func TestCrashesBehindCrashes(t *testing.T) {
	r := rand.New(rand.NewSource(107))
	for range 150 {
		s := made(10 + r.Intn(20))
		for range 25 {
			l := changed(r, s.Objects)
			behind, acts, err := store.Commit(s, l)
			if err != api.OK {
				continue
			}
			cut := r.Intn(len(acts) + 1)
			if r.Intn(3) == 0 {
				cut = len(acts)
			}
			d, _ := device.Do(s.Dev, acts[:cut]...)
			keep := choices(r, len(d.Waits))
			c, _ := device.Crash(d, keep[r.Intn(len(keep))])
			s = mustBeOneOfBoth(t, c, s, behind, cut, acts)
		}
	}
}

// TestManyPagesAreCutOff: a commit of many writes, kept by chance.
func TestManyPagesAreCutOff(t *testing.T) {
	r := rand.New(rand.NewSource(108))
	most, _ := bigObjects(maxObjects, 20)
	s := committed(t, 2000, most[:200])
	l := slices.Concat(most[50:], objects(5000))
	behind, acts, err := store.Commit(s, l)
	if err != api.OK {
		t.Fatal(err)
	}
	for _, cut := range append(r.Perm(len(acts))[:30], len(acts)-3, len(acts)-2, len(acts)-1, len(acts)) {
		d, _ := device.Do(s.Dev, acts[:cut]...)
		keep := make([]bool, len(d.Waits))
		for i := range keep {
			keep[i] = r.Intn(4) > 0
		}
		c, _ := device.Crash(d, keep)
		mustBeOneOfBoth(t, c, s, behind, cut, acts)
	}
}
