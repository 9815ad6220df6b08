package usage_test

import (
	"math"
	"math/rand"
	"reflect"
	"slices"
	"strings"
	"testing"

	"godown/api"
	"godown/tree"
	"godown/usage"
)

// P15.2, and P1 and P3 of DOC.md

// askSet: all that a set is asked.
func askSet(s api.Set) []int {
	out := []int{usage.Set(s), usage.Changed(s), usage.Body(s.Body)}
	for place := -1; place <= len(s.Snaps); place++ {
		out = append(out, usage.Unique(s, place))
	}
	for _, n := range s.Snaps {
		out = append(out, usage.Body(n.Body))
	}
	return out
}

// askAll: all that a tenant is asked.
func askAll(x api.Tenant) []int {
	out := []int{usage.Tenant(x), 0}
	if usage.Fits(x) {
		out[1] = 1
	}
	for _, s := range x.Sets {
		out = append(out, askSet(s)...)
	}
	for _, s := range x.Stages {
		out = append(out, usage.Body(s.Body))
	}
	return out
}

// few: tenants of each kind, some of which may not be.
func few() map[string]api.Tenant {
	out := map[string]api.Tenant{
		"zero":     {},
		"the root": {Sets: []api.Set{{}}},
		"full":     full(),
		"falling":  {Sets: []api.Set{setOf(content(9, 8, 7, 1), content(5, 4, 3), content(3, 5, 4), content(1, 1, 0))}, Stages: stagesOf(content(3, 2, 1))},
		"twice":    {Sets: []api.Set{setOf(content(2, 2), content(1, 1, 1)), setOf(content(1, 1), content(2, 2))}},
		"edges":    {Sets: []api.Set{setOf(edges(), edges()[:7], edges()[3:])}, Stages: stagesOf(edges())},
	}
	var x api.Tenant
	fill(reflect.ValueOf(&x).Elem())
	out["filled"] = x
	x = full()
	slices.Reverse(x.Sets)
	for i := range x.Sets {
		slices.Reverse(x.Sets[i].Snaps)
		slices.Reverse(x.Sets[i].Body)
	}
	out["full, the other way round"] = x
	return out
}

// TestArgumentsStay: what is handed in, and what stands behind it.
func TestArgumentsStay(t *testing.T) {
	r := rand.New(rand.NewSource(157))
	all := few()
	for i := range 200 {
		all["many "+text(i)] = someTenant(r, someList)
	}
	for what, x := range all {
		for _, room := range []int{0, 1, 3} {
			x := deep(x, room)
			ahead := whole(&x)
			askAll(x)
			if whole(&x) != ahead {
				t.Errorf("%s: what was handed in was changed", what)
			}
		}
	}
}

// TestWhatStandsBehindDoesNotCount: nor does what a list could still hold.
func TestWhatStandsBehindDoesNotCount(t *testing.T) {
	for what, x := range few() {
		want := askAll(x)
		for _, room := range []int{0, 1, 9} {
			if got := askAll(deep(x, room)); !slices.Equal(got, want) {
				t.Errorf("%s: with room behind %v, want %v", what, got, want)
			}
		}
	}
}

// TestAnswersHangOnTheArgumentsAlone: not on what was asked ahead, nor on what
// became of it.
func TestAnswersHangOnTheArgumentsAlone(t *testing.T) {
	all := few()
	for what, x := range all {
		want := askAll(deep(x, 0))
		for other, y := range all {
			y = deep(y, 0)
			askAll(y)
			for _, leaf := range leavesOf(&y) {
				leaf.SetZero()
			}
			for range 2 {
				if got := askAll(x); !slices.Equal(got, want) {
					t.Errorf("%s behind %s: %v, want %v", what, other, got, want)
				}
			}
		}
	}
}

// TestTheSameInManyGoroutines: one tenant that all are asked of.
func TestTheSameInManyGoroutines(t *testing.T) {
	x := few()["falling"]
	want := askAll(x)
	got := make(chan []int)
	for range 20 {
		go func() { got <- askAll(x) }()
	}
	for range 20 {
		if told := <-got; !slices.Equal(told, want) {
			t.Errorf("%v, want %v", told, want)
		}
	}
}

func TestNilAndEmptyAreOne(t *testing.T) {
	for what, x := range few() {
		want := askAll(x)
		empty := deep(x, 0)
		for _, l := range listsOf(&empty) {
			if l.Len() == 0 {
				l.Set(reflect.MakeSlice(l.Type(), 0, 3))
			}
		}
		bare := deep(x, 0)
		for _, l := range listsOf(&bare) {
			if l.Len() == 0 {
				l.SetZero()
			}
		}
		if !slices.Equal(askAll(empty), want) || !slices.Equal(askAll(bare), want) {
			t.Errorf("%s: empty lists are not as nil ones", what)
		}
	}
}

// TestOneMemoryManyTimes: what is one list is charged for wherever it stands.
func TestOneMemoryManyTimes(t *testing.T) {
	l := content(1, 2, 3)
	s := setOf(l, l, l[:2], l[1:], l)
	if got := usage.Set(s); got != 18 {
		t.Errorf("Set of one list five times: %d", got)
	}
	mustAll(t, "one list five times", s, 1, 0, 0, 0)
	x := api.Tenant{Sets: []api.Set{s, s}, Stages: stagesOf(l, l)}
	if got := usage.Tenant(x); got != 44 {
		t.Errorf("Tenant of one list many times: %d", got)
	}
	mustCharge(t, "one list many times", x)
}

// TestNothingPanics: whatever is handed in, each call answers as the words
// tell it.
func TestNothingPanics(t *testing.T) {
	r := rand.New(rand.NewSource(158))
	numbers := []int{math.MinInt, math.MinInt + 1, -maxAmount, -1, 0, 1, 15, 16, maxIndex, 1 << 32, maxAmount, math.MaxInt - 1, math.MaxInt}
	texts := []string{"", "/", "@", "A", text(0), text(1), "\x00", "\xff\xff", strings.Repeat("a/", 99)}
	for i := range 1500 {
		x := someTenant(r, someList)
		for range i % 30 {
			switch leaf := pick(r, leavesOf(&x)); leaf.Kind() {
			case reflect.String:
				leaf.SetString(pick(r, texts))
			case reflect.Int:
				leaf.SetInt(int64(pick(r, numbers)))
			}
			if l := pick(r, listsOf(&x)); l.Len() > 0 {
				l.Set(reflect.Append(l, l.Index(r.Intn(l.Len()))))
			}
		}
		mustCharge(t, "anything", x)
		mustFit(t, "anything", x)
		for _, s := range x.Sets {
			mustLook(t, "anything", s)
			usage.Unique(s, pick(r, numbers))
			usage.Unique(s, int(r.Uint64()))
		}
		if usage.Fits(x) != (wantCharge(x) <= x.Quota) {
			t.Fatalf("Fits of %s", brief(x))
		}
	}
}

// mixed: n blocks in no order, each with a text of one memory.
func mixed(n int, data string) []api.Block {
	out := make([]api.Block, n)
	for i := range out {
		out[i] = api.Block{Index: (i * 7919) % n, Data: data}
	}
	return out
}

// TestHuge: lists far above all limits are answered soon.
func TestHuge(t *testing.T) {
	const n = 1 << 18
	data := text(1)
	l, k := mixed(n, data), mixed(n, text(2))
	if usage.Body(l) != n+1 {
		t.Error("Body of many blocks")
	}
	if s := setOf(l, mixed(n, data), k); usage.Changed(s) != n || usage.Unique(s, 0) != n || usage.Unique(s, 1) != n || usage.Set(s) != 3*n+3 {
		t.Error("a set of many blocks that are others")
	}
	if s := setOf(l, mixed(n/2, data), mixed(n, data), mixed(n/2, data)); usage.Changed(s) != n/2 || usage.Unique(s, 1) != n/2 || usage.Unique(s, 0) != 0 {
		t.Error("a set of many blocks, of which half are others")
	}
	same := slices.Repeat([]api.Block{at(1, 1)}, n)
	if s := setOf(same, same, nil, same); usage.Changed(s) != 0 || usage.Unique(s, 0) != n || usage.Unique(s, 2) != 0 {
		t.Error("a set of one block many times")
	}
	s := setOf(content(1), slices.Repeat([][]api.Block{content(1), nil}, n/2)...)
	if usage.Set(s) != n+n/2+2 || usage.Changed(s) != 1 || usage.Unique(s, 0) != 1 || usage.Unique(s, n/2) != 1 || usage.Unique(s, n-1) != 0 {
		t.Error("a set of many snapshots")
	}
	x := api.Tenant{Quota: 3*n + 2, Sets: make([]api.Set, n), Stages: make([]api.Stage, n)}
	x.Sets[n-1] = setOf(make([]api.Block, n))
	if usage.Tenant(x) != 3*n || !usage.Fits(x) {
		t.Error("a tenant of many sets and stages")
	}
	long := strings.Repeat("b", 1<<24)
	if s := setOf([]api.Block{{Data: long + "a"}, {Data: long}}, []api.Block{{Data: long + "b"}, {Data: strings.Clone(long)}}); usage.Changed(s) != 1 || usage.Unique(s, 0) != 1 {
		t.Error("a set of long Data")
	}
	if tree.Check(x) != api.ErrState {
		t.Error("a tenant of many sets may be")
	}
}
