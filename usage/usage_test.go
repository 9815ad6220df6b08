package usage_test

import (
	"math"
	"math/rand"
	"reflect"
	"slices"
	"strings"
	"testing"

	"godown/api"
	"godown/tree"
	"godown/usage"
)

// P15.1: Body, Set, Tenant, Fits

func TestBody(t *testing.T) {
	for what, k := range map[string]struct {
		l    []api.Block
		want int
	}{
		"no list":         {nil, 1},
		"no block":        {[]api.Block{}, 1},
		"one":             {content(0), 2},
		"one at the end":  {content(maxIndex - 1), 2},
		"two":             {content(0, 1), 3},
		"two far apart":   {content(0, maxIndex-1), 3},
		"many":            {content(1, 2, 5, 9, 20, 300), 7},
		"as many as may":  {span(maxIndex), 1025},
		"more than may":   {span(maxIndex + 1), 1026},
		"one twice":       {content(3, 3), 3},
		"one index twice": {[]api.Block{at(3, 1), at(3, 2)}, 3},
		"falling":         {content(5, 4, 3), 4},
		"no index":        {content(-1, maxIndex), 3},
		"no Data":         {[]api.Block{{}}, 2},
		"long Data":       {[]api.Block{{Data: strings.Repeat("x", 1<<16)}}, 2},
	} {
		if got := usage.Body(k.l); got != k.want {
			t.Errorf("Body of %s: %d, want %d", what, got, k.want)
		}
	}
	for n := range 3000 {
		if got := usage.Body(make([]api.Block, n)); got != n+1 {
			t.Fatalf("Body of %d blocks: %d", n, got)
		}
	}
}

func TestSet(t *testing.T) {
	for what, k := range map[string]struct {
		s    api.Set
		want int
	}{
		"zero":                     {api.Set{}, 1},
		"without snapshots":        {setOf(content(1, 2)), 3},
		"one snapshot":             {setOf(content(1, 2), content(1)), 5},
		"one of no block":          {setOf(content(1, 2), nil), 4},
		"of no block, one of some": {setOf(nil, content(1, 2, 3)), 5},
		"one that is the same":     {setOf(content(1, 2), content(1, 2)), 6},
		"two":                      {setOf(nil, nil, nil), 3},
		"several":                  {setOf(content(1), content(1, 2), content(1, 2, 3), nil, content(9)), 12},
		"16":                       {setOf(nil, slices.Repeat([][]api.Block{content(1)}, 16)...), 33},
		"17, which may not be":     {setOf(nil, slices.Repeat([][]api.Block{content(1)}, 17)...), 35},
		"full ones":                {setOf(span(maxIndex), span(maxIndex), span(maxIndex)), 3075},
		"no contents":              {setOf(content(3, 3, 1), content(9, 8), []api.Block{{}, {}}), 10},
		"all else of it":           {full().Sets[1], 8},
		"what may not be": {api.Set{Path: "//", Origin: "x", Own: make([]api.Prop, 99), Snaps: []api.Snap{
			{Name: "A", Guid: -1, Tags: make([]string, 99), Own: make([]api.Prop, 99)}, {Name: "A", Guid: -1}}}, 3},
	} {
		if got := usage.Set(k.s); got != k.want {
			t.Errorf("Set of %s: %d, want %d", what, got, k.want)
		}
	}
}

// stagesOf: stages of these contents.
func stagesOf(bodies ...[]api.Block) []api.Stage {
	var out []api.Stage
	for _, l := range bodies {
		out = append(out, api.Stage{Into: "a", Body: l})
	}
	return out
}

func TestTenant(t *testing.T) {
	for what, k := range map[string]struct {
		x    api.Tenant
		want int
	}{
		"zero":                   {api.Tenant{}, 0},
		"no set, much else":      {api.Tenant{Name: "t", Quota: 9, Next: 7, Grants: full().Grants, Log: full().Log}, 0},
		"the root alone":         {api.Tenant{Sets: []api.Set{{}}}, 1},
		"the root with a block":  {api.Tenant{Sets: []api.Set{setOf(content(1))}}, 2},
		"the root, a snapshot":   {api.Tenant{Sets: []api.Set{setOf(content(1), nil)}}, 3},
		"sets":                   {api.Tenant{Sets: []api.Set{{}, setOf(content(1, 2)), {}}}, 5},
		"sets and snapshots":     {api.Tenant{Sets: []api.Set{setOf(nil, content(1)), setOf(content(1), content(1, 2), nil)}}, 9},
		"stages alone":           {api.Tenant{Stages: stagesOf(nil, content(1), content(1, 2))}, 6},
		"the root and a stage":   {api.Tenant{Sets: []api.Set{{}}, Stages: stagesOf(nil)}, 2},
		"sets and stages":        {api.Tenant{Sets: []api.Set{{}, setOf(content(4))}, Stages: stagesOf(content(4), nil)}, 6},
		"all together":           {full(), charge},
		"32 sets, 16 snapshots":  {api.Tenant{Sets: slices.Repeat([]api.Set{setOf(nil, make([][]api.Block, 16)...)}, 32), Stages: stagesOf(nil, nil, nil, nil)}, 548},
		"33 sets, 5 stages":      {api.Tenant{Sets: make([]api.Set, 33), Stages: make([]api.Stage, 5)}, 38},
		"one set many times":     {api.Tenant{Sets: slices.Repeat([]api.Set{setOf(content(1), content(2))}, 5)}, 20},
		"no contents":            {api.Tenant{Sets: []api.Set{setOf(content(2, 1), content(1, 1))}, Stages: stagesOf([]api.Block{{}, {Index: -7}})}, 9},
		"a stage that is done":   {api.Tenant{Stages: []api.Stage{{Body: content(1, 2), Done: true}}}, 3},
		"a stage with a record":  {api.Tenant{Stages: []api.Stage{{Begin: api.Record{Kind: 2, Index: 9, Count: 99, Data: text(1), Own: make([]api.Prop, 7)}}}}, 1},
		"a quota below a charge": {api.Tenant{Quota: -5, Sets: []api.Set{{}}}, 1},
	} {
		if got := usage.Tenant(k.x); got != k.want {
			t.Errorf("Tenant of %s: %d, want %d", what, got, k.want)
		}
	}
	if tree.Check(full()) != api.OK {
		t.Error("full may not be")
	}
}

// TestNewTenant: the chapter's example.
func TestNewTenant(t *testing.T) {
	for _, quota := range []int{1, 2, 20, maxAmount} {
		x, err := tree.New("t", quota)
		if err != api.OK || usage.Tenant(x) != 1 || !usage.Fits(x) {
			t.Errorf("a new tenant of quota %d: %d, Fits %v", quota, usage.Tenant(x), usage.Fits(x))
		}
		if usage.Set(x.Sets[0]) != 1 || usage.Body(x.Sets[0].Body) != 1 || usage.Changed(x.Sets[0]) != 0 || usage.Unique(x.Sets[0], 0) != 0 {
			t.Error("the root of a new tenant")
		}
	}
}

// mustCharge: each charge is what the words tell, and the sum of its parts.
func mustCharge(t *testing.T, what string, x api.Tenant) {
	t.Helper()
	parts := 0
	for _, s := range x.Sets {
		of := usage.Body(s.Body)
		for _, n := range s.Snaps {
			of += usage.Body(n.Body)
		}
		if got, want := usage.Set(s), wantCharge(s); got != want || got != of {
			t.Errorf("%s: Set of %q: %d, want %d, its parts %d", what, s.Path, got, want, of)
		}
		parts += of
	}
	for _, s := range x.Stages {
		parts += usage.Body(s.Body)
	}
	if got, want := usage.Tenant(x), wantCharge(x); got != want || got != parts {
		t.Errorf("%s: Tenant: %d, want %d, its parts %d", what, got, want, parts)
	}
}

func TestChargeOfManyTenants(t *testing.T) {
	r := rand.New(rand.NewSource(151))
	for range 2000 {
		x := someTenant(r, someBody)
		if tree.Check(x) != api.OK {
			t.Fatalf("a tenant that may not be: %s", brief(x))
		}
		mustCharge(t, "many", x)
		mustFit(t, "many", x)
	}
	for range 2000 {
		x := someTenant(r, someList)
		mustCharge(t, "many of no contents", x)
		mustFit(t, "many of no contents", x)
	}
}

// TestWhatIsNoContentIsFree: whatever is changed but how many contents and
// blocks there are, the charge stays.
func TestWhatIsNoContentIsFree(t *testing.T) {
	all := full()
	for i := range leavesOf(&all) {
		x := full()
		leavesOf(&x)[i].SetZero()
		mustCharge(t, "a leaf made zero", x)
		if usage.Tenant(x) != charge {
			t.Errorf("leaf %d is charged for", i)
		}
	}
	for i := range listsOf(&all) {
		x := full()
		l := listsOf(&x)[i]
		more := 0
		switch l.Type() {
		case reflect.TypeFor[[]api.Set](), reflect.TypeFor[[]api.Snap](), reflect.TypeFor[[]api.Stage](), reflect.TypeFor[[]api.Block]():
			more = 1
		}
		l.Set(reflect.Append(l, reflect.Zero(l.Type().Elem())))
		mustCharge(t, "a list with one more", x)
		if got := usage.Tenant(x); got != charge+more {
			t.Errorf("a list of %v with one more: %d, want %d more than %d", l.Type(), got, more, charge)
		}
	}
}

// TestEachPartIsCharged: without one content, or with another block in it.
func TestEachPartIsCharged(t *testing.T) {
	all := full()
	contents := 0
	for i, l := range listsOf(&all) {
		if l.Type() != reflect.TypeFor[[]api.Block]() {
			continue
		}
		contents++
		x := full()
		listsOf(&x)[i].SetZero()
		if got, want := usage.Tenant(x), charge-l.Len(); got != want {
			t.Errorf("without the blocks of list %d: %d, want %d", i, got, want)
		}
		x = full()
		listsOf(&x)[i].Set(reflect.ValueOf(span(maxIndex)))
		if got, want := usage.Tenant(x), charge-l.Len()+maxIndex; got != want {
			t.Errorf("with all blocks in list %d: %d, want %d", i, got, want)
		}
	}
	if contents != 13 {
		t.Errorf("full has %d contents", contents)
	}
	for i, s := range all.Sets {
		x := full()
		x.Sets = slices.Delete(x.Sets, i, i+1)
		if got, want := usage.Tenant(x), charge-usage.Set(s); got != want {
			t.Errorf("without the set %q: %d, want %d", s.Path, got, want)
		}
	}
}

// mustFit: at each quota beside the charge, and at the edges.
func mustFit(t *testing.T, what string, x api.Tenant) {
	t.Helper()
	need := wantCharge(x)
	for quota, want := range map[int]bool{
		need: true, need + 1: true, need - 1: false, math.MaxInt: true, math.MinInt: false,
		-1: false, 0: need == 0, maxAmount: true, maxAmount + 1: true, -maxAmount: false, -need - 1: false,
	} {
		x.Quota = quota
		if got := usage.Fits(x); got != want {
			t.Errorf("%s: Fits of charge %d, quota %d: %v", what, need, quota, got)
		}
		if got := usage.Tenant(x); got != need {
			t.Errorf("%s: the charge at quota %d: %d, want %d", what, quota, got, need)
		}
	}
}

func TestFits(t *testing.T) {
	for quota, want := range map[int]bool{charge: true, charge - 1: false, charge + 1: true, 0: false, 1: false, -1: false, maxAmount: true} {
		x := full()
		x.Quota = quota
		if got := usage.Fits(x); got != want {
			t.Errorf("Fits of charge %d, quota %d: %v", charge, quota, got)
		}
	}
	mustFit(t, "full", full())
	mustFit(t, "zero", api.Tenant{})
	mustFit(t, "the root alone", api.Tenant{Sets: []api.Set{{}}})
	mustFit(t, "stages alone", api.Tenant{Stages: stagesOf(content(1), nil)})
	if !usage.Fits(api.Tenant{}) {
		t.Error("a charge of 0 does not fit a quota of 0")
	}
	if usage.Fits(api.Tenant{Quota: -1}) {
		t.Error("a charge of 0 fits a quota below 0")
	}
}

// TestEachBlockTips: a tenant that just fits does not with one block more,
// wherever it is.
func TestEachBlockTips(t *testing.T) {
	all := full()
	for i, l := range listsOf(&all) {
		if l.Type() != reflect.TypeFor[[]api.Block]() {
			continue
		}
		x := full()
		x.Quota = charge
		if !usage.Fits(x) {
			t.Fatal("full does not fit its charge")
		}
		l := listsOf(&x)[i]
		l.Set(reflect.Append(l, reflect.ValueOf(at(maxIndex-1, 5))))
		if usage.Fits(x) {
			t.Errorf("one more block in list %d fits", i)
		}
	}
}
