package shape_test

import (
	"fmt"
	"math"
	"slices"
	"strings"
	"testing"

	"godown/api"
	"godown/shape"
	"godown/usage"
)

// P16.2: Write, Free, Set, Unset, With

// bodied: full with that Body in its set at that place.
func bodied(place int, body []api.Block) api.Tenant {
	x := full()
	x.Sets[place].Body = body
	return x
}

func TestWrite(t *testing.T) {
	other := text(77)
	for _, k := range []struct {
		path  string
		index int
		data  string
		place int
		want  []api.Block
	}{
		{"", 0, other, 0, []api.Block{at(0, 77), at(1023, 1023)}},
		{"", 1, other, 0, []api.Block{at(0, 0), at(1, 77), at(1023, 1023)}},
		{"", 1022, other, 0, []api.Block{at(0, 0), at(1022, 77), at(1023, 1023)}},
		{"", 1023, other, 0, []api.Block{at(0, 0), at(1023, 77)}},
		{"alpha", 0, other, 1, append([]api.Block{at(0, 77)}, content(1, 2, 3, 7, 9)...)},
		{"alpha", 1, other, 1, append([]api.Block{at(1, 77)}, content(2, 3, 7, 9)...)},
		{"alpha", 3, text(3), 1, content(1, 2, 3, 7, 9)}, // as it is
		{"alpha", 3, other, 1, slices.Concat(content(1, 2), []api.Block{at(3, 77)}, content(7, 9))},
		{"alpha", 5, other, 1, slices.Concat(content(1, 2, 3), []api.Block{at(5, 77)}, content(7, 9))},
		{"alpha", 10, other, 1, append(content(1, 2, 3, 7, 9), at(10, 77))},
		{"alpha", 1023, other, 1, append(content(1, 2, 3, 7, 9), at(1023, 77))},
		{"alpha/one", 0, other, 2, []api.Block{at(0, 77)}},
		{"alpha/one/two", 4, other, 3, []api.Block{at(4, 77), at(5, 5)}}, // its snapshots stay
		{"plain", 1023, other, 8, []api.Block{at(1023, 77)}},
		{"held", 3, other, 7, []api.Block{at(3, 77)}},
		{"staged", 1, other, 9, []api.Block{at(1, 77), at(512, 512)}},
		{"plain", 7, strings.Repeat("\x00", 16), 8, []api.Block{{Index: 7, Data: strings.Repeat("\x00", 16)}}},
		{"plain", 7, "\xff\x80 octets, any \xe9", 8, []api.Block{{Index: 7, Data: "\xff\x80 octets, any \xe9"}}},
		{"plain", 7, strings.Repeat("é", 8), 8, []api.Block{{Index: 7, Data: strings.Repeat("é", 8)}}},
	} {
		mustBe(t, "full", full(), write(k.path, k.index, k.data), bodied(k.place, k.want))
	}
}

func TestWriteErrors(t *testing.T) {
	for _, path := range []string{"a", "alph", "alpha/two", "alpha/one/two/new", "gone/away", "monday", longestPath} {
		mustRefuse(t, "no set", full(), write(path, 3, text(1)), api.ErrNone)
	}
	for _, path := range pathsOf(full()) {
		for _, index := range []int{-1, 1024, 1025, -1024, 1 << 32, 1<<32 + 1, maxAmount, math.MinInt, math.MaxInt} {
			mustRefuse(t, "no index", full(), write(path, index, text(1)), api.ErrRange)
		}
		for _, data := range noData() {
			mustRefuse(t, "no Data", full(), write(path, 3, data), api.ErrLong)
			mustRefuse(t, "no Data", full(), write(path, 0, data), api.ErrLong)
			mustRefuse(t, "no Data", full(), write(path, 1023, data), api.ErrLong)
		}
	}
	for n := range 40 {
		_, err := mustAnswer(t, "each length", full(), write("plain", 3, strings.Repeat("b", n)))
		if (err == api.OK) != (n == 16) {
			t.Errorf("Data of %d octets: %d", n, err)
		}
	}
}

// TestWriteCharge: a block that is new is charged for 1, one in another's place
// for nothing; but what is above its Quota is told so, whatever it writes.
func TestWriteCharge(t *testing.T) {
	for quota, want := range map[int][2]api.Errno{
		fullCharge + 2: {api.OK, api.OK},
		fullCharge + 1: {api.OK, api.OK},
		fullCharge:     {api.OK, api.ErrQuota},
		fullCharge - 1: {api.ErrQuota, api.ErrQuota},
		1:              {api.ErrQuota, api.ErrQuota},
		0:              {api.ErrQuota, api.ErrQuota},
		maxAmount:      {api.OK, api.OK},
	} {
		x := full()
		x.Quota = quota
		for i, a := range []ask{write("alpha", 3, text(77)), write("alpha", 4, text(77))} {
			if got, err := mustAnswer(t, fmt.Sprintf("quota %d", quota), x, a); err != want[i] || err == api.OK && !usage.Fits(got) {
				t.Errorf("quota %d, %s: %d, want %d", quota, a.what, err, want[i])
			}
		}
	}
	mustRefuse(t, "a quota of 1", alone(1), write("", 0, text(1)), api.ErrQuota)
	mustBe(t, "a quota of 2", alone(2), write("", 0, text(1)), onto(alone(2), func(x *api.Tenant) { x.Sets[0].Body = []api.Block{at(0, 1)} }))
	x := alone(maxIndex + 1)
	for i := range maxIndex {
		y, err := shape.Write(x, "", (i*7)%maxIndex, text(i))
		if err != api.OK || len(y.Sets[0].Body) != i+1 {
			t.Fatalf("block %d: %d", i, err)
		}
		x = y
	}
	if !usage.Fits(x) || usage.Tenant(x) != x.Quota {
		t.Error("all blocks are charged for as many and 1")
	}
}

func TestFree(t *testing.T) {
	for _, k := range []struct {
		path         string
		index, count int
		place        int
		want         []api.Block
	}{
		{"", 0, 1, 0, content(1023)},
		{"", 1023, 1, 0, content(0)},
		{"", 0, 1024, 0, nil},
		{"", 0, 1023, 0, content(1023)},
		{"", 1, 1023, 0, content(0)},
		{"", 1, 1022, 0, content(0, 1023)}, // none there
		{"alpha", 0, 1, 1, content(1, 2, 3, 7, 9)},
		{"alpha", 0, 2, 1, content(2, 3, 7, 9)},
		{"alpha", 1, 1, 1, content(2, 3, 7, 9)},
		{"alpha", 2, 1, 1, content(1, 3, 7, 9)},
		{"alpha", 2, 5, 1, content(1, 7, 9)},
		{"alpha", 2, 6, 1, content(1, 9)},
		{"alpha", 3, 600, 1, content(1, 2)}, // more than there are
		{"alpha", 4, 3, 1, content(1, 2, 3, 7, 9)},
		{"alpha", 8, 1, 1, content(1, 2, 3, 7, 9)},
		{"alpha", 9, 1, 1, content(1, 2, 3, 7)},
		{"alpha", 10, 1014, 1, content(1, 2, 3, 7, 9)},
		{"alpha", 1023, 1, 1, content(1, 2, 3, 7, 9)},
		{"alpha/one", 0, 1024, 2, nil}, // of no block
		{"alpha/one/two", 4, 2, 3, nil},
		{"plain", 1023, 1, 8, nil},
		{"staged", 512, 512, 9, nil},
	} {
		mustBe(t, "full", full(), free(k.path, k.index, k.count), bodied(k.place, k.want))
	}
	over := onto(full(), func(x *api.Tenant) { x.Quota = 3 })
	mustBe(t, "a quota that it stays above", over, free("", 0, 1), onto(bodied(0, content(1023)), func(x *api.Tenant) { x.Quota = 3 }))
}

func TestFreeErrors(t *testing.T) {
	for _, path := range []string{"a", "alph", "alpha/two", "alpha/one/two/new", "gone/away", "monday", longestPath} {
		mustRefuse(t, "no set", full(), free(path, 1, 3), api.ErrNone)
	}
	for _, path := range pathsOf(full()) {
		for _, k := range [][2]int{
			{-1, 1}, {-1, 2}, {1024, 1}, {1024, 0}, {1025, -1}, {math.MinInt, 1}, {math.MaxInt, 1}, {1 << 32, 1}, {math.MinInt, math.MinInt}, {math.MaxInt, math.MaxInt},
			{0, 0}, {3, 0}, {1023, 0}, {0, -1}, {3, -1}, {0, 1025}, {1, 1024}, {2, 1024}, {1022, 3}, {1023, 2}, {0, math.MaxInt}, {1023, math.MaxInt}, {3, math.MinInt}, {1, 1<<32 + 1}, {0, 1<<32 + 1},
		} {
			mustRefuse(t, "no run", full(), free(path, k[0], k[1]), api.ErrRange)
		}
	}
	for index := -2; index < 1027; index++ {
		for _, count := range []int{-1, 0, 1, 1023 - index, 1024 - index, 1025 - index, 1024} {
			mustAnswer(t, "each index", alone(9), free("", index, count))
		}
	}
}

// owned: full with that Own in its set at that place.
func owned(place int, l ...string) api.Tenant {
	x := full()
	x.Sets[place].Own = own(l...)
	return x
}

func TestSet(t *testing.T) {
	longest := strings.Repeat("~ ", 16)
	for _, k := range []struct {
		path, name, value string
		place             int
		want              []string
	}{
		{"", "atime", "off", 0, []string{"atime=off", "copies=1"}},
		{"", "atime", "on", 0, []string{"atime=on", "copies=1"}}, // as it is
		{"", "atime", "", 0, []string{"atime=", "copies=1"}},
		{"", "a", "1", 0, []string{"a=1", "atime=on", "copies=1"}},
		{"", "atime-", "1", 0, []string{"atime=on", "atime-=1", "copies=1"}},
		{"", "copies", longest, 0, []string{"atime=on", "copies=" + longest}},
		{"", "z", "=", 0, []string{"atime=on", "copies=1", "z=="}},
		{"alpha", "b", "1", 1, []string{"atime=off", "b=1", "copies=2", "quota=none"}},
		{"alpha", "quota", "5", 1, []string{"atime=off", "copies=2", "quota=5"}},
		{"alpha/one", "atime", "on", 2, []string{"atime=on", "copies=3"}},
		{"alpha/one/two", "z", "z", 3, []string{"z=z"}}, // its snapshots stay
		{"beta", longestName, "1", 4, []string{longestName + "=1"}},
		{"plain", "p", "", 8, []string{"p="}},
		{"staged", "copies", "2", 9, []string{"copies=2"}}, // the stage's stay
	} {
		mustBe(t, "full", full(), set(k.path, k.name, k.value), owned(k.place, k.want...))
	}
	over := onto(full(), func(x *api.Tenant) { x.Quota = 3 })
	mustBe(t, "a quota that it is above", over, set("plain", "a", "1"), onto(owned(8, "a=1"), func(x *api.Tenant) { x.Quota = 3 }))
}

// TestSetMany: up to 8 properties, and none that is not there more.
func TestSetMany(t *testing.T) {
	x := full()
	for i := range 8 {
		x.Sets[8].Own = ownOf(i)
		want := onto(deep(x, 0), func(x *api.Tenant) { x.Sets[8].Own = append(ownOf(i), own("z=1")...) })
		mustBe(t, "fewer than 8", x, set("plain", "z", "1"), want)
	}
	x.Sets[8].Own = ownOf(8)
	mustRefuse(t, "8 properties", x, set("plain", "z", "1"), api.ErrCount)
	mustRefuse(t, "8 properties, ahead of all", x, set("plain", "a", "1"), api.ErrCount)
	for i := range 8 {
		want := deep(x, 0)
		want.Sets[8].Own[i].Value = "new"
		mustBe(t, "8 properties", x, set("plain", fmt.Sprintf("p%d", i), "new"), want)
	}
	// Those of the sets above do not count.
	x.Sets = append(slices.Clone(x.Sets[:9]), api.Set{Path: "plain/kid"}, x.Sets[9])
	if _, err := mustAnswer(t, "8 of the parent", x, set("plain/kid", "a", "1")); err != api.OK {
		t.Errorf("8 of the parent: %d", err)
	}
}

func TestSetErrors(t *testing.T) {
	for _, path := range []string{"a", "alpha/two", "alpha/one/two/new", "gone/away", longestPath} {
		mustRefuse(t, "no set", full(), set(path, "a", "1"), api.ErrNone)
		mustRefuse(t, "no set", full(), unset(path, "atime"), api.ErrNone)
	}
	for _, path := range pathsOf(full()) {
		for _, name := range append(noNames(), "", "a/b", "/", "alpha@monday") {
			mustRefuse(t, "no name", full(), set(path, name, "1"), api.ErrName)
		}
		for _, value := range noValues() {
			mustRefuse(t, "no value", full(), set(path, "a", value), api.ErrState)
			mustRefuse(t, "no value", full(), set(path, "atime", value), api.ErrState)
		}
	}
	for c := range 256 {
		mustAnswer(t, "each octet", full(), set("plain", "a", string([]byte{'v', byte(c)})))
		mustAnswer(t, "each octet", full(), set("plain", string([]byte{'n', byte(c)}), "v"))
	}
	for n := range 40 {
		mustAnswer(t, "each length", full(), set("plain", "a", strings.Repeat("v", n)))
		mustAnswer(t, "each length", full(), set("plain", strings.Repeat("n", n), "v"))
	}
}

func TestUnset(t *testing.T) {
	for _, k := range []struct {
		path, name string
		place      int
		want       []string
	}{
		{"", "atime", 0, []string{"copies=1"}},
		{"", "copies", 0, []string{"atime=on"}},
		{"alpha", "atime", 1, []string{"copies=2", "quota=none"}},
		{"alpha", "copies", 1, []string{"atime=off", "quota=none"}},
		{"alpha", "quota", 1, []string{"atime=off", "copies=2"}},
		{"alpha/one", "copies", 2, nil},
		{"alpha/one/two", "z", 3, nil}, // its snapshots stay
	} {
		mustBe(t, "full", full(), unset(k.path, k.name), owned(k.place, k.want...))
	}
	over := onto(full(), func(x *api.Tenant) { x.Quota = 3 })
	mustBe(t, "a quota that it is above", over, unset("", "atime"), onto(owned(0, "copies=1"), func(x *api.Tenant) { x.Quota = 3 }))
	x := full()
	x.Sets[8].Own = ownOf(8)
	for i := range 8 {
		want := deep(x, 0)
		want.Sets[8].Own = slices.Delete(want.Sets[8].Own, i, i+1)
		mustBe(t, "8 properties", x, unset("plain", fmt.Sprintf("p%d", i)), want)
	}
}

// TestUnsetErrors: what is inherited is not there, nor what is a snapshot's, a
// stage's or another set's.
func TestUnsetErrors(t *testing.T) {
	for path, names := range map[string][]string{
		"":              {"a", "atim", "atime-", "atimes", "b", "quota", "on", "z"},
		"alpha":         {"a", "b", "none"},
		"alpha/one":     {"atime", "quota", "cop"},
		"alpha/one/two": {"atime", "copies", "last"},
		"plain":         {"atime", "copies"},
		"staged":        {"copies", "first"},
	} {
		for _, name := range names {
			mustRefuse(t, "no property", full(), unset(path, name), api.ErrNone)
		}
		for _, name := range append(noNames(), "", "a/b", "/", "atime=on") {
			mustRefuse(t, "no name", full(), unset(path, name), api.ErrNone)
		}
	}
}

// named: sets at these paths, each with something by which it is known.
func named(l ...string) []api.Set {
	out := setsAt(l...)
	for i := range out {
		out[i].Origin = fmt.Sprintf("@n%d", i)
		out[i].Body = content(i)
	}
	return out
}

func TestWith(t *testing.T) {
	s := api.Set{Path: "m", Origin: "x@y", Body: content(3), Own: own("a=b"), Snaps: []api.Snap{{Name: "n", Guid: 4, Body: content(5), Tags: []string{"t"}, Own: own("c=d")}}}
	for what, k := range map[string]struct {
		l     []string
		place int
	}{
		"no set":                      {nil, 0},
		"the root":                    {[]string{""}, 1},
		"ahead of all":                {[]string{"n", "o", "z"}, 0},
		"ahead of all but the root":   {[]string{"", "m-", "n"}, 1},
		"between":                     {[]string{"", "a", "l", "n", "z"}, 3},
		"behind all":                  {[]string{"", "a", "l", "lz"}, 4},
		"there already, ahead of it":  {[]string{"", "l", "m", "n"}, 2},
		"there already, the last":     {[]string{"", "l", "m"}, 2},
		"there already, the first":    {[]string{"m", "n"}, 0},
		"there three times":           {[]string{"a", "m", "m", "m", "n"}, 1},
		"kids of it":                  {[]string{"", "l", "m/a", "m/b"}, 2},
		"those that begin alike":      {[]string{"l", "m!", "m-", "m/", "m0", "ma"}, 1},
		"sets that fall":              {[]string{"z", "y", "m", "a"}, 0},
		"sets in no order":            {[]string{"a", "z", "b", "m"}, 1},
		"the first that is not below": {[]string{"c", "b", "a", "m", "a"}, 3},
		"great letters are below":     {[]string{"A", "M", "Z", "_"}, 4},
		"other octets are above":      {[]string{"\x00", "m\x00", "\xff"}, 1},
	} {
		x := full()
		x.Sets = named(k.l...)
		want := deep(x, 0)
		want.Sets = slices.Insert(want.Sets, k.place, s)
		if got := shape.With(x, s); !one(got, want) {
			t.Errorf("%s: %v", what, pathsOf(got))
		}
		mustWith(t, what, x, s)
	}
}

// TestWithAsksNothing: neither the tenant nor the set need be one that may be,
// and what comes of it need not fit.
func TestWithAsksNothing(t *testing.T) {
	odd := []api.Set{{}, {Path: "a", Origin: "@", Own: own("=")}, filled[api.Set](3), {Path: "//", Body: make([]api.Block, 2000)}, {Path: "\xff", Snaps: make([]api.Snap, 99)}}
	for what, x := range tenants() {
		for _, s := range slices.Concat(odd, full().Sets) {
			mustWith(t, what, x, s)
		}
	}
	x := flat(32)
	x.Quota = 0
	if got := shape.With(x, api.Set{Path: "z"}); len(got.Sets) != 33 {
		t.Errorf("With in 32 sets: %d", len(got.Sets))
	}
	if got := shape.With(api.Tenant{}, api.Set{Path: "z"}); !one(got, api.Tenant{Sets: setsAt("z")}) {
		t.Errorf("With in a zero tenant: %s", brief(got))
	}
}

// TestWithAllOrders: each list of at most five of four paths, and each path.
func TestWithAllOrders(t *testing.T) {
	paths := []string{"", "a", "a/b", "b"}
	lists := [][]string{nil}
	for first := 0; len(lists[first]) < 5; first++ {
		for _, p := range paths {
			lists = append(lists, append(slices.Clone(lists[first]), p))
		}
	}
	for _, l := range lists {
		for _, p := range append(paths, "-", "a-", "c") {
			mustWith(t, fmt.Sprint(l), api.Tenant{Sets: named(l...)}, api.Set{Path: p, Body: content(99)})
		}
	}
}
