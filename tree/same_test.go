package tree_test

import (
	"fmt"
	"math"
	"math/rand"
	"reflect"
	"testing"

	"godown/api"
	"godown/tree"
)

// P14.1: Same, Copy

// mustBe: Same of both, either way, and of each with itself.
func mustBe(t *testing.T, what string, a, b api.Tenant, want bool) {
	t.Helper()
	if tree.Same(a, b) != want || tree.Same(b, a) != want {
		t.Errorf("%s: Same is not %t", what, want)
	}
	if !tree.Same(a, a) || !tree.Same(b, b) {
		t.Errorf("%s: Same tells a tenant from itself", what)
	}
}

// others: what each leaf is changed to.
func others(leaf reflect.Value) []any {
	switch leaf.Kind() {
	case reflect.String:
		s := leaf.String()
		return []any{s + "x", s + "\x00", "x" + s, "\x00" + s, ""}
	case reflect.Uint64:
		n := leaf.Uint()
		return []any{n + 1, n - 1, n ^ 1<<63, ^n, n ^ 1<<32}
	case reflect.Bool:
		return []any{!leaf.Bool()}
	}
	n := leaf.Int()
	return []any{n + 1, n - 1, -n - 1, n ^ 1<<40, n ^ 1<<32, int64(math.MinInt), int64(math.MaxInt)}
}

// TestSameEachLeaf: a tenant is not Same as one with any one field changed,
// wherever it stands.
func TestSameEachLeaf(t *testing.T) {
	for what, x := range map[string]api.Tenant{"full": full(), "filled": filled(1), "filled, by two": filled(2), "filled, by three": filled(3)} {
		for i, leaf := range leaves(&x) {
			for _, to := range others(leaf) {
				y := deep(x, 0)
				changed := leaves(&y)[i]
				changed.Set(reflect.ValueOf(to).Convert(changed.Type()))
				mustBe(t, fmt.Sprintf("%s, leaf %d changed to %v", what, i, to), x, y, one(x, y))
			}
		}
	}
}

// TestSameEachElement: nor as one with an element of a list gone, twice, zero
// or in another place.
func TestSameEachElement(t *testing.T) {
	for what, x := range map[string]api.Tenant{"full": full(), "filled": filled(1), "filled, by two": filled(2), "filled, by three": filled(3)} {
		for i, l := range slicesOf(&x) {
			for at := range l.Len() {
				for done, do := range elementEdits {
					y := deep(x, 0)
					do(slicesOf(&y)[i], at)
					mustBe(t, fmt.Sprintf("%s, element %d of list %d %s", what, at, i, done), x, y, one(x, y))
				}
			}
			y := deep(x, 0)
			more := slicesOf(&y)[i]
			more.Set(reflect.Append(more, reflect.Zero(more.Type().Elem())))
			mustBe(t, fmt.Sprintf("%s, list %d with a zero one", what, i), x, y, false)
		}
	}
}

// TestSameOfElsewhere: what one field has is not what another one has.
func TestSameOfElsewhere(t *testing.T) {
	base := func() api.Tenant {
		x := flat(3)
		x.Sets[1].Snaps, x.Sets[2].Snaps, x.Stages = snapsOf(2), snapsOf(1), stagesOf(2)
		return x
	}
	for what, do := range map[string][2]func(t *api.Tenant){
		"Quota and Next": {
			func(t *api.Tenant) { t.Quota, t.Next = 1, 2 },
			func(t *api.Tenant) { t.Quota, t.Next = 2, 1 },
		},
		"Path and Origin": {
			func(t *api.Tenant) { t.Sets[1].Path, t.Sets[1].Origin = "a", "b" },
			func(t *api.Tenant) { t.Sets[1].Path, t.Sets[1].Origin = "b", "a" },
		},
		"where a text ends": {
			func(t *api.Tenant) { t.Sets[1].Path, t.Sets[1].Origin = "ab", "c" },
			func(t *api.Tenant) { t.Sets[1].Path, t.Sets[1].Origin = "a", "bc" },
		},
		"whose a tag is": {
			func(t *api.Tenant) { t.Sets[1].Snaps[0].Tags = tagsOf(1) },
			func(t *api.Tenant) { t.Sets[1].Snaps[1].Tags = tagsOf(1) },
		},
		"whose a snapshot is": {
			func(t *api.Tenant) { t.Sets[1].Snaps = snapsOf(1) },
			func(t *api.Tenant) { t.Sets[2].Snaps = snapsOf(2) },
		},
		"a set's and its snapshot's": {
			func(t *api.Tenant) { t.Sets[1].Body = content(1) },
			func(t *api.Tenant) { t.Sets[1].Snaps[0].Body = content(1) },
		},
		"whose properties are": {
			func(t *api.Tenant) { t.Sets[1].Own = own("a=1") },
			func(t *api.Tenant) { t.Sets[2].Own = own("a=1") },
		},
		"At and Next": {
			func(t *api.Tenant) { t.Stages[0].At = 1 },
			func(t *api.Tenant) { t.Stages[0].Next = 1 },
		},
		"two sums": {
			func(t *api.Tenant) { t.Stages[0].Sum.A = 1 },
			func(t *api.Tenant) { t.Stages[0].Begin.Sum.A = 1 },
		},
		"whose a sum is": {
			func(t *api.Tenant) { t.Stages[0].Sum.A = 1 },
			func(t *api.Tenant) { t.Stages[1].Sum.A = 1 },
		},
	} {
		x, y := onto(base(), do[0]), onto(base(), do[1])
		mustBe(t, what, x, y, false)
		mustBe(t, what, x, base(), false)
		mustBe(t, what, x, onto(base(), do[0]), true)
	}
}

// TestSameEachOther: of all tenants each with each other one.
func TestSameEachOther(t *testing.T) {
	met := map[string]string{}
	var all []api.Tenant
	for what, x := range tenants() {
		told := tell(reflect.ValueOf(x))
		if _, is := met[told]; !is {
			all = append(all, x)
		}
		met[told] = what
	}
	if len(all) < 400 {
		t.Fatalf("only %d tenants", len(all))
	}
	for i, x := range all {
		for j := i % 7; j < len(all); j += 7 {
			if tree.Same(x, all[j]) != (i == j) {
				t.Fatalf("Same of %v and %v", x, all[j])
			}
		}
	}
}

// mustCopy: what is answered is what was handed in, in memory of its own.
func mustCopy(t *testing.T, what string, x api.Tenant) {
	t.Helper()
	a, b := tree.Copy(x), tree.Copy(x)
	if !one(a, x) || !one(b, x) {
		t.Errorf("%s: Copy is another tenant", what)
	}
	if !tree.Same(a, x) || !tree.Same(x, a) || tree.Check(a) != tree.Check(x) {
		t.Errorf("%s: Same or Check of a Copy", what)
	}
	mustShareNothing(t, "Copy of "+what, rooms(x), rooms(a), rooms(b))
}

func TestCopy(t *testing.T) {
	for what, x := range tenants() {
		if what != "16 of each of 32 sets" { // too many for each with each
			mustCopy(t, what, deep(x, 0))
		}
	}
	for n := range 4 {
		mustCopy(t, "filled", filled(n))
		mustCopy(t, "filled, with room", deep(filled(n), 3))
	}
}

func TestCopyMany(t *testing.T) {
	r := rand.New(rand.NewSource(144))
	for range 60 {
		x := some(r)
		breakOne(r, &x)
		mustCopy(t, "some", x)
	}
}

// TestCopyIsApart: a copy that is changed changes nothing that it was made of,
// nor another copy.
func TestCopyIsApart(t *testing.T) {
	x, again := filled(2), filled(2)
	a, b := tree.Copy(x), tree.Copy(x)
	for _, leaf := range leaves(&a) {
		leaf.SetZero()
	}
	if !one(x, again) || !one(b, again) {
		t.Error("a change of a copy is seen elsewhere")
	}
	for _, l := range slicesOf(&x) {
		l.Set(l.Slice(0, 0))
	}
	if !one(b, again) {
		t.Error("a copy changes with what it was made of")
	}
}

// TestNothingIsNothing: empty lists and none at all are one.
func TestNothingIsNothing(t *testing.T) {
	for _, n := range []int{0, 1} {
		x := filled(n)
		y := deep(x, 0)
		for _, l := range slicesOf(&y) {
			if l.Len() == 0 {
				l.Set(reflect.MakeSlice(l.Type(), 0, 2))
			}
		}
		for _, l := range slicesOf(&x) {
			if l.Len() == 0 {
				l.SetZero()
			}
		}
		mustBe(t, "nil and empty", x, y, true)
		mustCopy(t, "nil", x)
		mustCopy(t, "empty", y)
	}
	mustBe(t, "zero", api.Tenant{}, api.Tenant{Sets: []api.Set{}, Grants: []api.Grant{}, Stages: []api.Stage{}, Log: []api.Entry{}}, true)
	mustBe(t, "a zero set", api.Tenant{}, api.Tenant{Sets: []api.Set{{}}}, false)
	mustBe(t, "a set of empty lists", api.Tenant{Sets: []api.Set{{}}}, api.Tenant{Sets: []api.Set{{Body: []api.Block{}, Snaps: []api.Snap{}, Own: []api.Prop{}}}}, true)
}
