package usage_test

import (
	"math"
	"math/rand"
	"slices"
	"testing"

	"godown/api"
	"godown/blocks"
	"godown/usage"
)

// P15.1: Unique, Changed

// mustLook: at each place, and around; and what is changed.
func mustLook(t *testing.T, what string, s api.Set) {
	t.Helper()
	for _, place := range []int{math.MinInt, -maxAmount, -2, len(s.Snaps) + 1, 2*len(s.Snaps) + 2, maxAmount, math.MaxInt - 1, math.MaxInt} {
		if got := usage.Unique(s, place); got != 0 {
			t.Fatalf("%s: Unique of %s, %d: %d, want 0", what, brief(s), place, got)
		}
	}
	for place := -1; place <= len(s.Snaps); place++ {
		if got, want := usage.Unique(s, place), wantUnique(s, place); got != want {
			t.Fatalf("%s: Unique of %s, %d: %d, want %d", what, brief(s), place, got, want)
		}
	}
	if got, want := usage.Changed(s), wantChanged(s); got != want {
		t.Fatalf("%s: Changed of %s: %d, want %d", what, brief(s), got, want)
	}
}

// mustAll: what Unique answers from place -1 to one behind the last one.
func mustAll(t *testing.T, what string, s api.Set, want ...int) {
	t.Helper()
	var got []int
	for place := -1; place <= len(s.Snaps); place++ {
		got = append(got, usage.Unique(s, place))
	}
	want = slices.Concat([]int{0}, want, []int{0})
	if !slices.Equal(got, want) {
		t.Errorf("Unique, %s: %v, want %v", what, got, want)
	}
	mustLook(t, what, s)
}

func TestUnique(t *testing.T) {
	for what, k := range map[string]struct {
		s    api.Set
		want []int
	}{
		"without snapshots":            {setOf(content(1, 2)), nil},
		"without anything":             {api.Set{}, nil},
		"one, Body of no block":        {setOf(nil, content(1, 2)), []int{2}},
		"one of no block":              {setOf(content(1, 2), nil), []int{0}},
		"one that is the same as Body": {setOf(content(1, 2), content(1, 2)), []int{0}},
		"one that has one more":        {setOf(content(1, 2), content(1, 2, 3)), []int{1}},
		"one that has one less":        {setOf(content(1, 2, 3), content(1, 3)), []int{0}},
		"one that has all others":      {setOf(content(4, 5), content(1, 2, 3)), []int{3}},
		"other Data":                   {setOf([]api.Block{at(1, 9)}, []api.Block{at(1, 1)}), []int{1}},
		"another Index":                {setOf([]api.Block{at(2, 1)}, []api.Block{at(1, 1)}), []int{1}},
		"some of both": {
			setOf([]api.Block{at(1, 1), at(2, 9), at(4, 3)}, []api.Block{at(1, 1), at(2, 2), at(3, 3)}), []int{2},
		},
		"Index and Data changed over": {
			setOf([]api.Block{at(1, 2), at(2, 1)}, []api.Block{at(1, 1), at(2, 2)}), []int{2},
		},
		"two, of all others":           {setOf(content(5, 6), content(1, 2), content(3)), []int{2, 1}},
		"two, all the same":            {setOf(content(1, 2), content(1, 2), content(1, 2)), []int{0, 0}},
		"the first one's gone behind":  {setOf(nil, content(1, 2, 3), content(2)), []int{2, 0}},
		"the first has none ahead":     {setOf(content(1, 2), content(1, 2), nil), []int{2, 0}},
		"ahead has it, behind not":     {setOf(nil, content(7), content(7), nil), []int{0, 0, 0}},
		"behind has it, ahead not":     {setOf(nil, nil, content(7), content(7)), []int{0, 0, 0}},
		"ahead one, behind the other":  {setOf(nil, content(1), content(1, 2, 3), content(2)), []int{0, 1, 0}},
		"both neighbours have all":     {setOf(nil, content(1, 2), content(1, 2), content(1, 2)), []int{0, 0, 0}},
		"neither has any":              {setOf(nil, nil, content(1, 2), nil), []int{0, 2, 0}},
		"just those next to it count":  {setOf(content(1), content(1), nil, content(1), nil, content(1), nil), []int{1, 0, 1, 0, 1, 0}},
		"two places ahead":             {setOf(nil, content(4), nil, content(4)), []int{1, 0, 1}},
		"Body is behind the last":      {setOf(content(8), content(8), nil, content(8)), []int{1, 0, 0}},
		"Body is behind the last only": {setOf(content(8), content(8), content(9)), []int{1, 1}},
		"in the middle of others":      {setOf(nil, content(1, 3, 5), content(1, 2, 3, 4, 5, 6, 7), content(6, 7)), []int{0, 2, 0}},
		"full ones":                    {setOf(content(5), span(maxIndex), content(0, maxIndex-1)), []int{maxIndex - 2, 0}},
		"at the ends": {
			setOf(nil, content(0), content(0, 1, maxIndex-2, maxIndex-1), content(maxIndex-1)), []int{0, 2, 0},
		},
		"each with other Data than the last": {
			setOf([]api.Block{at(1, 4)}, []api.Block{at(1, 1)}, []api.Block{at(1, 2)}, []api.Block{at(1, 3)}), []int{1, 1, 1},
		},
		"Data of the one ahead comes again": {
			setOf([]api.Block{at(1, 2)}, []api.Block{at(1, 1)}, []api.Block{at(1, 2)}, []api.Block{at(1, 1)}), []int{1, 1, 1},
		},
	} {
		mustAll(t, what, k.s, k.want...)
	}
}

func TestChanged(t *testing.T) {
	for what, k := range map[string]struct {
		s    api.Set
		want int
	}{
		"without anything":                 {api.Set{}, 0},
		"without snapshots":                {setOf(content(1, 2, 9)), 3},
		"without snapshots, full":          {setOf(span(maxIndex)), maxIndex},
		"one of no block":                  {setOf(content(1, 2), nil), 2},
		"one, Body of no block":            {setOf(nil, content(1, 2)), 0},
		"one that is the same as Body":     {setOf(content(1, 2), content(1, 2)), 0},
		"one that has other blocks":        {setOf(content(1, 2), content(3, 4, 5)), 2},
		"a block was put":                  {setOf(content(1, 2, 3), content(1, 3)), 1},
		"a block was freed":                {setOf(content(1, 3), content(1, 2, 3)), 0},
		"other Data":                       {setOf([]api.Block{at(1, 9), at(2, 2)}, []api.Block{at(1, 1), at(2, 2)}), 1},
		"another Index":                    {setOf([]api.Block{at(2, 1)}, []api.Block{at(1, 1)}), 1},
		"Index and Data changed over":      {setOf([]api.Block{at(1, 2), at(2, 1)}, []api.Block{at(1, 1), at(2, 2)}), 2},
		"several, the last is the same":    {setOf(content(1, 2), nil, content(9), content(1, 2)), 0},
		"several, the last is of no block": {setOf(content(1, 2), content(1, 2), content(1, 2), nil), 2},
		"several, only the first has it":   {setOf(content(1, 2), content(1), content(2)), 1},
		"several, together they have all":  {setOf(content(1, 2, 3), content(1), content(2), content(3)), 2},
		"full, and one freed and put":      {setOf(span(maxIndex), append(span(maxIndex - 1)[:maxIndex-1:maxIndex-1], at(maxIndex-1, 7))), 1},
	} {
		if got := usage.Changed(k.s); got != k.want {
			t.Errorf("Changed, %s: %d, want %d", what, got, k.want)
		}
		mustLook(t, what, k.s)
	}
}

// TestOfWhatIsNoContent: each block counts where it stands, and has its like
// wherever that stands.
func TestOfWhatIsNoContent(t *testing.T) {
	for what, k := range map[string]struct {
		s       api.Set
		changed int
		unique  []int
	}{
		"one twice":                  {setOf(content(3, 3), content(4, 4)), 2, []int{2}},
		"one twice, its like once":   {setOf(content(3, 3), content(3)), 0, []int{0}},
		"one once, its like twice":   {setOf(content(3), content(3, 3)), 0, []int{0}},
		"falling":                    {setOf(content(3, 2, 1), content(1, 2, 3)), 0, []int{0}},
		"its like falls":             {setOf(content(1, 2, 3), content(9, 3, 7, 1, 5)), 1, []int{3}},
		"all mixed":                  {setOf(content(2, 9, 1, 9, 2), content(5, 2, 7, 5)), 3, []int{3}},
		"one index, another first":   {setOf([]api.Block{at(1, 2)}, []api.Block{at(1, 1), at(1, 2), at(1, 3)}), 0, []int{2}},
		"one index, another behind":  {setOf([]api.Block{at(1, 2), at(1, 1)}, []api.Block{at(1, 2)}), 1, []int{0}},
		"one index, falling Data":    {setOf([]api.Block{at(1, 1)}, []api.Block{at(1, 3), at(1, 2), at(1, 1)}), 0, []int{2}},
		"no indexes":                 {setOf(content(-1, maxIndex, math.MinInt, math.MaxInt), content(-1, math.MaxInt)), 2, []int{0}},
		"no Data":                    {setOf([]api.Block{{Index: 1}, {Index: 2}}, []api.Block{{Index: 2}}), 1, []int{0}},
		"Data that begin alike":      {setOf([]api.Block{{Data: "ab"}}, []api.Block{{Data: "a"}, {Data: "abc"}, {Data: ""}}), 1, []int{3}},
		"Data of zeros":              {setOf([]api.Block{{Data: "\x00"}}, []api.Block{{}, {Data: "\x00\x00"}}), 1, []int{2}},
		"Data that are no text":      {setOf([]api.Block{{Data: "\xff"}, {Data: "\xfe"}}, []api.Block{{Data: "\xfe"}, {Data: "\ufffd"}}), 1, []int{1}},
		"Data of other letters":      {setOf([]api.Block{{Data: "a"}}, []api.Block{{Data: "A"}}), 1, []int{1}},
		"more blocks than may be":    {setOf(span(3*maxIndex), span(2*maxIndex)), maxIndex, []int{0}},
		"twice in the middle":        {setOf(nil, content(9, 1), content(1, 5, 5, 2, 1), content(2)), 0, []int{1, 2, 0}},
		"17 snapshots, one way back": {setOf(content(1), slices.Repeat([][]api.Block{content(1), content(2, 1)}, 8)...), 0, []int{0, 1, 0, 1, 0, 1, 0, 1, 0, 1, 0, 1, 0, 1, 0, 1}},
	} {
		if got := usage.Changed(k.s); got != k.changed {
			t.Errorf("Changed, %s: %d, want %d", what, got, k.changed)
		}
		mustAll(t, what, k.s, k.unique...)
	}
}

// TestAsTheyAre: each two blocks at the edges, one ahead, behind, or in Body,
// are one if all of them is.
func TestAsTheyAre(t *testing.T) {
	for _, a := range edges() {
		for _, b := range edges() {
			want := 1
			if a.Index == b.Index && a.Data == b.Data {
				want = 0
			}
			x, y := []api.Block{a}, []api.Block{b}
			if usage.Changed(setOf(x, y)) != want || usage.Unique(setOf(y, x), 0) != want ||
				usage.Unique(setOf(nil, y, x), 1) != want || usage.Unique(setOf(nil, x, y), 0) != want {
				t.Errorf("%v and %v", a, b)
			}
			mustLook(t, "edges", setOf(append(x, y...), y, edges(), x))
		}
	}
}

// TestOnlyContentsCount: names, Guids, tags and properties make no snapshot
// another one.
func TestOnlyContentsCount(t *testing.T) {
	r := rand.New(rand.NewSource(152))
	for range 300 {
		s := someSet(r, someBody)
		other := s
		other.Snaps = slices.Clone(s.Snaps)
		other.Path, other.Origin, other.Own = "//", "@@", make([]api.Prop, 3)
		for i := range other.Snaps {
			other.Snaps[i].Name = pick(r, []string{"", "n0", "n1", "A"})
			other.Snaps[i].Guid = r.Intn(9) - 4
			other.Snaps[i].Tags, other.Snaps[i].Own = make([]string, r.Intn(9)), make([]api.Prop, r.Intn(9))
		}
		for place := -1; place <= len(s.Snaps); place++ {
			if usage.Unique(s, place) != usage.Unique(other, place) {
				t.Fatalf("Unique of %s and %s, %d", brief(s), brief(other), place)
			}
		}
		if usage.Changed(s) != usage.Changed(other) || usage.Set(s) != usage.Set(other) {
			t.Fatalf("Changed or Set of %s and %s", brief(s), brief(other))
		}
	}
}

// TestAllSmallSets: of each three lists, contents or not.
func TestAllSmallSets(t *testing.T) {
	all := shortLists(2, at(0, 0), at(0, 1), at(1, 0), at(1, 1))
	if len(all) != 21 {
		t.Fatalf("%d short lists", len(all))
	}
	for _, a := range all {
		mustLook(t, "small", setOf(a))
		for _, b := range all {
			mustLook(t, "small", setOf(a, b))
			for _, c := range all {
				mustLook(t, "small", setOf(a, b, c))
			}
		}
	}
	some := shortLists(3, at(2, 0), at(1, 1))
	for _, a := range some {
		for _, b := range some {
			for _, c := range some {
				mustLook(t, "small", setOf(a, b, c, a, c, b))
			}
		}
	}
}

func TestManySets(t *testing.T) {
	r := rand.New(rand.NewSource(153))
	for range 3000 {
		mustLook(t, "many", someSet(r, someBody))
		mustLook(t, "many of no contents", someSet(r, someList))
	}
}

// someWide: a content of many blocks.
func someWide(r *rand.Rand) []api.Block {
	var out []api.Block
	for i := range maxIndex {
		if r.Intn(3) > 0 {
			out = append(out, at(i, r.Intn(2)))
		}
	}
	return out
}

func TestWideSets(t *testing.T) {
	r := rand.New(rand.NewSource(154))
	for range 20 {
		s := setOf(someWide(r), someWide(r), someWide(r), someWide(r))
		mustLook(t, "wide", s)
		for i := range s.Snaps {
			l := s.Snaps[i].Body
			r.Shuffle(len(l), func(i, j int) { l[i], l[j] = l[j], l[i] })
		}
		mustLook(t, "wide, mixed", s)
	}
}

// writes: the blocks that a change from a to b writes.
func writes(t *testing.T, a, b []api.Block) map[int]string {
	t.Helper()
	change, err := blocks.Diff(a, b)
	if err != api.OK {
		t.Fatalf("Diff: %d", err)
	}
	out := map[int]string{}
	for _, r := range change {
		if r.Kind == 2 {
			out[r.Index] = r.Data
		}
	}
	return out
}

// TestBesideChanges: what is changed is what blocks.Diff writes; what a
// snapshot has alone is what a change from each of its neighbours writes.
func TestBesideChanges(t *testing.T) {
	r := rand.New(rand.NewSource(155))
	for range 2000 {
		x, y, z := someBody(r), someBody(r), someBody(r)
		if got, want := usage.Changed(setOf(z, x, y)), len(writes(t, y, z)); got != want {
			t.Fatalf("Changed of %v behind %v: %d, want %d", z, y, got, want)
		}
		both, behind := 0, writes(t, z, y)
		for index := range writes(t, x, y) {
			if _, is := behind[index]; is {
				both++
			}
		}
		if got := usage.Unique(setOf(z, x, y), 1); got != both {
			t.Fatalf("Unique of %v between %v and %v: %d, want %d", y, x, z, got, both)
		}
		if got, want := usage.Unique(setOf(z, y), 0), len(behind); got != want {
			t.Fatalf("Unique of %v ahead of %v: %d, want %d", y, z, got, want)
		}
	}
}

// snapped: the set with a snapshot of its Body.
func snapped(s api.Set) api.Set {
	s.Snaps = append(slices.Clip(s.Snaps), api.Snap{Name: "new", Guid: maxAmount, Body: slices.Clone(s.Body)})
	return s
}

// TestBehindASnapshotNothingIsChanged: nor has the new one anything alone, and
// it is charged for as Body is.
func TestBehindASnapshotNothingIsChanged(t *testing.T) {
	r := rand.New(rand.NewSource(156))
	for i := range 3000 {
		s := someSet(r, someBody)
		if i%2 == 0 {
			s = someSet(r, someList)
		}
		last := len(s.Snaps)
		behind := snapped(s)
		if got := usage.Changed(behind); got != 0 {
			t.Fatalf("behind a snapshot of %s %d are changed", brief(s), got)
		}
		if got := usage.Unique(behind, last); got != 0 {
			t.Fatalf("a snapshot of %s has %d alone", brief(s), got)
		}
		for place := range last {
			if usage.Unique(behind, place) != usage.Unique(s, place) {
				t.Fatalf("a snapshot of %s changes what %d has alone", brief(s), place)
			}
		}
		if got, want := usage.Set(behind), usage.Set(s)+usage.Body(s.Body); got != want {
			t.Fatalf("a snapshot of %s: charge %d, want %d", brief(s), got, want)
		}
	}
}

// TestBehindAWrite: each block that is written counts, and none that is freed.
func TestBehindAWrite(t *testing.T) {
	s := snapped(setOf(content(1, 2, 5, 9)))
	for _, k := range []struct {
		index, seed, changed int
	}{{1, 1, 0}, {2, 7, 1}, {3, 3, 2}, {2, 8, 2}, {0, 0, 3}, {maxIndex - 1, 1, 4}, {2, 2, 3}} {
		body, err := blocks.Put(s.Body, k.index, text(k.seed))
		if s.Body = body; err != api.OK || usage.Changed(s) != k.changed {
			t.Errorf("behind a write at %d: %d, want %d", k.index, usage.Changed(s), k.changed)
		}
		mustLook(t, "behind a write", s)
	}
	for _, k := range []struct {
		index, changed, unique int
	}{{0, 2, 0}, {5, 2, 1}, {9, 2, 2}, {3, 1, 2}, {4, 1, 2}, {maxIndex - 1, 0, 2}, {1, 0, 3}, {2, 0, 4}} {
		body, err := blocks.Free(s.Body, k.index, 1)
		if s.Body = body; err != api.OK || usage.Changed(s) != k.changed || usage.Unique(s, 0) != k.unique {
			t.Errorf("behind a free at %d: %d and %d, want %d and %d", k.index, usage.Changed(s), usage.Unique(s, 0), k.changed, k.unique)
		}
		mustLook(t, "behind a free", s)
	}
}
