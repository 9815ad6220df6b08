package space_test

import (
	"math"
	"math/rand"
	"slices"
	"testing"

	"godown/api"
	"godown/space"
)

// most: how many sectors a device has at most, as the document writes it.
const most = 1 << 13

// wantCheck: what the document says of a total and a list, told by neighbours of
// the list when it is sorted.
func wantCheck(total int, used []int) api.Errno {
	if total < 2 || total > most {
		return api.ErrRange
	}
	for _, at := range used {
		if at < 2 || at >= total {
			return api.ErrRange
		}
	}
	sorted := slices.Sorted(slices.Values(used))
	for i := 1; i < len(sorted); i++ {
		if sorted[i-1] == sorted[i] {
			return api.ErrTwice
		}
	}
	return api.OK
}

// wantFree: each sector that may be used and is not.
func wantFree(total int, used []int) []int {
	isUsed := make([]bool, total)
	for _, at := range used {
		isUsed[at] = true
	}
	var out []int
	for at := 2; at < total; at++ {
		if !isUsed[at] {
			out = append(out, at)
		}
	}
	return out
}

// wantTake: what the document says, and the sectors, told of wantFree.
func wantTake(total int, used []int, n int) ([]int, api.Errno) {
	if err := wantCheck(total, used); err != api.OK {
		return nil, err
	}
	free := wantFree(total, used)
	if n < 0 {
		return nil, api.ErrRange
	}
	if n > len(free) {
		return nil, api.ErrFull
	}
	return free[:n], api.OK
}

// span: the numbers from a to below b.
func span(a, b int) []int {
	var out []int
	for n := a; n < b; n++ {
		out = append(out, n)
	}
	return out
}

// without: the list less one number.
func without(l []int, n int) []int {
	return slices.DeleteFunc(slices.Clone(l), func(at int) bool { return at == n })
}

// shuffled: the list in an order that hangs on the seed alone.
func shuffled(l []int, seed int64) []int {
	out := slices.Clone(l)
	rand.New(rand.NewSource(seed)).Shuffle(len(out), func(i, j int) { out[i], out[j] = out[j], out[i] })
	return out
}

// every: all lists of at most n of the numbers, each as often as may be.
func every(n int, numbers []int, do func([]int)) {
	var grow func(l []int)
	grow = func(l []int) {
		do(slices.Clone(l))
		if len(l) == n {
			return
		}
		for _, x := range numbers {
			grow(append(slices.Clone(l), x))
		}
	}
	grow(nil)
}

// mustTell: Check and Free, and Take of all n at the edges, tell what the
// document says of a total and a list.
func mustTell(t *testing.T, total int, used []int) {
	t.Helper()
	want := wantCheck(total, used)
	if err := space.Check(total, used); err != want {
		t.Fatalf("Check(%d, %v) = %d, want %d", total, short(used), err, want)
	}
	free, err := space.Free(total, used)
	if err != want || err != api.OK && len(free) != 0 {
		t.Fatalf("Free(%d, %v) = %v, %d, want error %d", total, short(used), short(free), err, want)
	}
	if want == api.OK && !slices.Equal(free, wantFree(total, used)) {
		t.Fatalf("Free(%d, %v) = %v", total, short(used), short(free))
	}
	for _, n := range []int{math.MinInt, -1 << 32, -2, -1, 0, 1, 2, len(free) / 2, len(free) - 1, len(free), len(free) + 1, len(free) + 2, total, most, 1 << 32, math.MaxInt} {
		mustTake(t, total, used, n)
	}
}

func mustTake(t *testing.T, total int, used []int, n int) {
	t.Helper()
	got, err := space.Take(total, used, n)
	want, wantErr := wantTake(total, used, n)
	if err != wantErr || !slices.Equal(got, want) {
		t.Fatalf("Take(%d, %v, %d) = %v, %d, want %v, %d", total, short(used), n, short(got), err, short(want), wantErr)
	}
}

// short: the front of a list, so that a fault can be read.
func short(l []int) []int {
	return l[:min(len(l), 20)]
}

// noTotals: as many sectors as no device has.
func noTotals() []int {
	return []int{math.MinInt, -1 << 32, -most, -2, -1, 0, 1, most + 1, most + 2, 2 * most, 1<<32 + 2, math.MaxInt}
}

// strangers: what is no sector that may be used of so many.
func strangers(total int) []int {
	return []int{1, 0, -1, -2, total, total + 1, most, most + 1, 1 << 32, 1<<32 + 2, math.MinInt, math.MinInt + 2, math.MaxInt}
}

func TestMaxSectors(t *testing.T) {
	if api.MaxSectors != most {
		t.Fatalf("MaxSectors = %d, want 2^13", api.MaxSectors)
	}
}

// P7.1: Check, Free and Take together

func TestOfTheChapter(t *testing.T) {
	if l, err := space.Take(5, []int{2}, 1); err != api.OK || !slices.Equal(l, []int{3}) {
		t.Errorf("Take(5, 2, 1) = %v, %d, want 3", l, err)
	}
}

// TestEachSmallList: each list of up to four numbers around each small total.
func TestEachSmallList(t *testing.T) {
	for total := -1; total <= 6; total++ {
		every(4, span(-1, 8), func(used []int) {
			want := wantCheck(total, used)
			if err := space.Check(total, used); err != want {
				t.Fatalf("Check(%d, %v) = %d, want %d", total, used, err, want)
			}
			free, err := space.Free(total, used)
			if err != want || want != api.OK && len(free) != 0 || want == api.OK && !slices.Equal(free, wantFree(total, used)) {
				t.Fatalf("Free(%d, %v) = %v, %d", total, used, free, err)
			}
			for n := -2; n <= 6; n++ {
				mustTake(t, total, used, n)
			}
		})
	}
}

// TestNoneAllAndAllButOne: at the edges of the totals.
func TestNoneAllAndAllButOne(t *testing.T) {
	for _, total := range []int{1, 2, 3, 4, 5, 64, 255, 256, 257, most - 1, most, most + 1} {
		all := span(2, total)
		mustTell(t, total, nil)
		mustTell(t, total, []int{})
		mustTell(t, total, all)
		for _, one := range []int{2, 3, total / 2, total - 2, total - 1} {
			mustTell(t, total, without(all, one))
			mustTell(t, total, shuffled(without(all, one), int64(one)))
		}
	}
}

func TestOneUsed(t *testing.T) {
	for _, total := range []int{1, 2, 3, 4, 5, 64, most - 1, most, most + 1} {
		for _, at := range append(strangers(total), 2, 3, total/2, total-2, total-1) {
			mustTell(t, total, []int{at})
		}
	}
}

// TestEdgesByHand: told without the reference.
func TestEdgesByHand(t *testing.T) {
	for _, c := range []struct {
		total int
		used  []int
		want  api.Errno
		free  []int
	}{
		{1, nil, api.ErrRange, nil},
		{1, []int{0}, api.ErrRange, nil},
		{2, nil, api.OK, nil},
		{2, []int{1}, api.ErrRange, nil},
		{2, []int{2}, api.ErrRange, nil},
		{3, nil, api.OK, []int{2}},
		{3, []int{1}, api.ErrRange, nil},
		{3, []int{2}, api.OK, nil},
		{3, []int{3}, api.ErrRange, nil},
		{3, []int{2, 2}, api.ErrTwice, nil},
		{5, nil, api.OK, []int{2, 3, 4}},
		{5, []int{4}, api.OK, []int{2, 3}},
		{5, []int{4, 2}, api.OK, []int{3}},
		{5, []int{3, 4, 2}, api.OK, nil},
		{5, []int{5}, api.ErrRange, nil},
		{5, []int{-1}, api.ErrRange, nil},
		{5, []int{4, 2, 4}, api.ErrTwice, nil},
		{5, []int{4, 2, 4, 5}, api.ErrRange, nil},
		{5, []int{5, 5}, api.ErrRange, nil},
		{9, []int{8, 3, 5}, api.OK, []int{2, 4, 6, 7}},
	} {
		if err := space.Check(c.total, c.used); err != c.want {
			t.Errorf("Check(%d, %v) = %d, want %d", c.total, c.used, err, c.want)
		}
		if free, err := space.Free(c.total, c.used); err != c.want || !slices.Equal(free, c.free) {
			t.Errorf("Free(%d, %v) = %v, %d, want %v, %d", c.total, c.used, free, err, c.free, c.want)
		}
		taken, err := space.Take(c.total, c.used, len(c.free))
		if err != c.want || !slices.Equal(taken, c.free) {
			t.Errorf("Take(%d, %v, %d) = %v, %d, want %v, %d", c.total, c.used, len(c.free), taken, err, c.free, c.want)
		}
	}
}

func TestTheGreatestTotal(t *testing.T) {
	if free, err := space.Free(most, nil); err != api.OK || len(free) != most-2 || free[0] != 2 || free[most-3] != most-1 {
		t.Errorf("Free(2^13, none) = %d sectors, %d", len(free), err)
	}
	if free, err := space.Free(most, []int{most - 1}); err != api.OK || len(free) != most-3 || free[most-4] != most-2 {
		t.Errorf("Free(2^13, the last) = %d sectors, %d", len(free), err)
	}
	if free, err := space.Free(most+1, nil); err != api.ErrRange || len(free) != 0 {
		t.Errorf("Free(2^13 + 1, none) = %d sectors, %d, want ErrRange alone", len(free), err)
	}
	if free, err := space.Free(most, []int{most}); err != api.ErrRange || len(free) != 0 {
		t.Errorf("Free(2^13, 2^13) = %d sectors, %d, want ErrRange alone", len(free), err)
	}
	if l, err := space.Take(most, span(2, most-1), 1); err != api.OK || !slices.Equal(l, []int{most - 1}) {
		t.Errorf("Take(2^13, all but the last, 1) = %v, %d", l, err)
	}
	if l, err := space.Take(most, span(2, most), 1); err != api.ErrFull || len(l) != 0 {
		t.Errorf("Take(2^13, all, 1) = %v, %d, want ErrFull alone", l, err)
	}
}

func TestRandomLists(t *testing.T) {
	r := rand.New(rand.NewSource(71))
	for range 300 {
		total := 2 + r.Intn(120)
		used := shuffled(span(2, total), r.Int63())[:r.Intn(total-1)]
		mustTell(t, total, used)
		if len(used) > 0 {
			mustTell(t, total, append(slices.Clone(used), used[r.Intn(len(used))]))
			mustTell(t, total-1, used)
		}
	}
}

// P7.1: the errors, and their order

func TestNoTotalTakesAnything(t *testing.T) {
	for _, total := range noTotals() {
		for _, used := range [][]int{nil, {}, {2}, {2, 2}, {1}, {-1, -1}, {math.MaxInt}, span(2, 40)} {
			if err := space.Check(total, used); err != api.ErrRange {
				t.Errorf("Check(%d, %v) = %d, want ErrRange", total, used, err)
			}
			mustTell(t, total, used)
		}
	}
}

// TestOneStrangerAtEachPlace: it is found wherever it stands, and goes ahead
// of one that stands twice, ahead of it and behind it.
func TestOneStrangerAtEachPlace(t *testing.T) {
	for _, total := range []int{8, 64, most} {
		for _, n := range strangers(total) {
			for place := range 6 {
				for _, l := range [][]int{{7, 2, 4, 3, 5}, {7, 2, 4, 2, 5}, {2, 2, 2, 2, 2}, {n, 2, 4, 3, 5}} {
					used := slices.Insert(slices.Clone(l), place, n)
					if err := space.Check(total, used); err != api.ErrRange {
						t.Errorf("Check(%d, %v) = %d, want ErrRange", total, used, err)
					}
					if free, err := space.Free(total, used); err != api.ErrRange || len(free) != 0 {
						t.Errorf("Free(%d, %v) = %v, %d, want ErrRange alone", total, used, short(free), err)
					}
					for _, take := range []int{-1, 0, 1, most} {
						if got, err := space.Take(total, used, take); err != api.ErrRange || len(got) != 0 {
							t.Errorf("Take(%d, %v, %d) = %v, %d, want ErrRange alone", total, used, take, got, err)
						}
					}
				}
			}
		}
	}
}

// TestOneTwiceAtEachPairOfPlaces: of long lists, too.
func TestOneTwiceAtEachPairOfPlaces(t *testing.T) {
	for _, total := range []int{12, 300, most} {
		base := shuffled(span(2, total), int64(total))[:min(total-2, 400)]
		last := len(base) - 1
		for _, i := range []int{0, 1, last / 2, last - 1, last} {
			for _, j := range []int{0, 1, last / 2, last - 1, last} {
				used := slices.Clone(base)
				used[i] = used[j]
				want := api.ErrTwice
				if i == j {
					want = api.OK
				}
				if err := space.Check(total, used); err != want {
					t.Errorf("Check(%d) with place %d as %d = %d, want %d", total, i, j, err, want)
				}
				if free, err := space.Free(total, used); err != want || want != api.OK && len(free) != 0 {
					t.Errorf("Free(%d) with place %d as %d = %v, %d, want %d", total, i, j, short(free), err, want)
				}
			}
		}
	}
}

// TestTakeTellsItsErrorsInOrder: Check's, then a number below 0, then too
// many.
func TestTakeTellsItsErrorsInOrder(t *testing.T) {
	full := span(2, 6)
	for _, c := range []struct {
		total int
		used  []int
		n     int
		want  api.Errno
	}{
		{1, nil, 0, api.ErrRange},
		{most + 1, nil, 1, api.ErrRange},
		{6, []int{2, 2}, -1, api.ErrTwice},
		{6, []int{2, 2}, 0, api.ErrTwice},
		{6, []int{2, 2}, 9, api.ErrTwice},
		{6, []int{6}, 9, api.ErrRange},
		{6, nil, -1, api.ErrRange},
		{6, full, -1, api.ErrRange},
		{6, full, math.MinInt, api.ErrRange},
		{2, nil, -1, api.ErrRange},
		{2, nil, 1, api.ErrFull},
		{3, []int{2}, 1, api.ErrFull},
		{6, full, 1, api.ErrFull},
		{6, full, math.MaxInt, api.ErrFull},
		{6, nil, 5, api.ErrFull},
		{6, []int{4}, 4, api.ErrFull},
	} {
		if got, err := space.Take(c.total, c.used, c.n); err != c.want || len(got) != 0 {
			t.Errorf("Take(%d, %v, %d) = %v, %d, want %d alone", c.total, c.used, c.n, got, err, c.want)
		}
	}
}

func TestTakeOfNone(t *testing.T) {
	for _, total := range []int{2, 3, 9, most} {
		for _, used := range [][]int{nil, span(2, total)} {
			if got, err := space.Take(total, used, 0); err != api.OK || len(got) != 0 {
				t.Errorf("Take(%d, %v, 0) = %v, %d", total, short(used), got, err)
			}
		}
	}
}

// TestLongListsEnd: many more numbers than there are sectors.
func TestLongListsEnd(t *testing.T) {
	many := slices.Repeat([]int{2}, 1<<20)
	if err := space.Check(most, many); err != api.ErrTwice {
		t.Errorf("Check of one sector 2^20 times = %d, want ErrTwice", err)
	}
	if free, err := space.Free(most, many); err != api.ErrTwice || len(free) != 0 {
		t.Errorf("Free of one sector 2^20 times = %d, want ErrTwice", err)
	}
	many = append(many, most)
	if err := space.Check(most, many); err != api.ErrRange {
		t.Errorf("Check of one sector 2^20 times and a stranger = %d, want ErrRange", err)
	}
	if got := space.Union(many, many, many); !slices.Equal(got, []int{2, most}) {
		t.Errorf("Union of one sector 2^20 times and a stranger = %v", short(got))
	}
}

// P7.1: what is free and what is used

// TestFreeAndUsedAreAll: together each sector from 2 on, each once.
func TestFreeAndUsedAreAll(t *testing.T) {
	r := rand.New(rand.NewSource(72))
	for _, total := range []int{2, 3, 4, 17, 300, most} {
		for range 20 {
			used := shuffled(span(2, total), r.Int63())[:r.Intn(total-1)]
			free, err := space.Free(total, used)
			if err != api.OK {
				t.Fatalf("Free(%d) = %d", total, err)
			}
			together := append(slices.Clone(used), free...)
			slices.Sort(together)
			if !slices.Equal(together, span(2, total)) {
				t.Fatalf("Free(%d, %v) and those used are not all sectors", total, short(used))
			}
			if back, err := space.Free(total, free); err != api.OK || !slices.Equal(back, space.Union(used)) {
				t.Fatalf("Free(%d) of those that were free are not those that were used", total)
			}
		}
	}
}

// TestNothingIsTakenTwice: what is taken is used then, till none is free; what
// is given back in between is taken again.
func TestNothingIsTakenTwice(t *testing.T) {
	r := rand.New(rand.NewSource(73))
	for _, total := range []int{2, 3, 7, 60, 700} {
		owner := make([]bool, total)
		var used []int
		for range 200 {
			n := r.Intn(total/4 + 2)
			room := total - 2 - len(used)
			got, err := space.Take(total, used, n)
			if n > room {
				if err != api.ErrFull || len(got) != 0 {
					t.Fatalf("Take(%d) of %d, %d free = %v, %d, want ErrFull alone", total, n, room, got, err)
				}
				used = giveBack(r, owner, used)
				continue
			}
			if err != api.OK || len(got) != n {
				t.Fatalf("Take(%d) of %d, %d free = %v, %d", total, n, room, got, err)
			}
			for _, at := range got {
				if at < 2 || owner[at] {
					t.Fatalf("Take(%d) took sector %d, which is no free one", total, at)
				}
				owner[at] = true
			}
			used = shuffled(append(used, got...), r.Int63())
			if err := space.Check(total, used); err != api.OK {
				t.Fatalf("Check(%d) behind Take = %d", total, err)
			}
		}
	}
}

// giveBack: some of those used, at random, are no longer.
func giveBack(r *rand.Rand, owner []bool, used []int) []int {
	keep := used[:r.Intn(len(used)+1)]
	for _, at := range used[len(keep):] {
		owner[at] = false
	}
	return slices.Clone(keep)
}

// TestTakenOneByOne: as if taken at once, and all in the end.
func TestTakenOneByOne(t *testing.T) {
	const total = 40
	used := []int{33, 2, 17, 39}
	free := wantFree(total, used)
	for i, want := range free {
		got, err := space.Take(total, used, 1)
		if err != api.OK || !slices.Equal(got, []int{want}) {
			t.Fatalf("Take of one, for the %dth time = %v, %d, want %d", i, got, err, want)
		}
		used = append(used, got...)
	}
	if got, err := space.Take(total, used, 1); err != api.ErrFull || len(got) != 0 {
		t.Errorf("Take of one where none is free = %v, %d", got, err)
	}
	if left, err := space.Free(total, used); err != api.OK || len(left) != 0 {
		t.Errorf("Free where none is = %v, %d", left, err)
	}
}

// P7.1: Union

// mustUnion: the answer rises, so that each stands in it once; it has no
// number that no list has, and lacks none.
func mustUnion(t *testing.T, l ...[]int) {
	t.Helper()
	got := space.Union(l...)
	for i := 1; i < len(got); i++ {
		if got[i-1] >= got[i] {
			t.Fatalf("Union(%v) = %v: does not rise at place %d", l, short(got), i)
		}
	}
	for _, n := range got {
		if !slices.ContainsFunc(l, func(list []int) bool { return slices.Contains(list, n) }) {
			t.Fatalf("Union(%v) = %v: %d stands in no list", l, short(got), n)
		}
	}
	for _, list := range l {
		for _, n := range list {
			if !slices.Contains(got, n) {
				t.Fatalf("Union(%v) = %v: lacks %d", l, short(got), n)
			}
		}
	}
}

func TestUnion(t *testing.T) {
	for _, c := range []struct {
		l    [][]int
		want []int
	}{
		{nil, nil},
		{[][]int{}, nil},
		{[][]int{nil}, nil},
		{[][]int{{}}, nil},
		{[][]int{nil, {}, nil}, nil},
		{[][]int{{4}}, []int{4}},
		{[][]int{{}, {4}, nil}, []int{4}},
		{[][]int{{2, 3, 5}}, []int{2, 3, 5}},
		{[][]int{{2, 3, 5}, {2, 3, 5}}, []int{2, 3, 5}},
		{[][]int{{5, 2, 3}}, []int{2, 3, 5}},
		{[][]int{{5, 5, 2, 5, 2}}, []int{2, 5}},
		{[][]int{{9, 4}, {7}, {4, 2, 9}}, []int{2, 4, 7, 9}},
		{[][]int{{3}, {2}, {1}, {0}, {-1}}, []int{-1, 0, 1, 2, 3}},
		{[][]int{{0, 1}, {1, 0}}, []int{0, 1}},
		{[][]int{{math.MaxInt, -1}, {math.MinInt, 0, math.MaxInt}}, []int{math.MinInt, -1, 0, math.MaxInt}},
		{[][]int{{1 << 32, 0}, {-1 << 32, 1<<32 + 1}}, []int{-1 << 32, 0, 1 << 32, 1<<32 + 1}},
		{[][]int{{most, most + 1}, {most - 1, 1 << 62}}, []int{most - 1, most, most + 1, 1 << 62}},
	} {
		if got := space.Union(c.l...); !slices.Equal(got, c.want) {
			t.Errorf("Union(%v) = %v, want %v", c.l, got, c.want)
		}
		mustUnion(t, c.l...)
	}
	if got := space.Union(); len(got) != 0 {
		t.Errorf("Union() = %v", got)
	}
}

func TestUnionOfEachSmallList(t *testing.T) {
	every(5, []int{-1, 0, 1, math.MaxInt}, func(l []int) {
		for cut := range len(l) + 1 {
			mustUnion(t, l[:cut], l[cut:])
		}
	})
}

func TestUnionOfRandomLists(t *testing.T) {
	r := rand.New(rand.NewSource(74))
	for range 300 {
		l := make([][]int, r.Intn(6))
		for i := range l {
			for range r.Intn(12) {
				l[i] = append(l[i], r.Intn(30)-8)
			}
		}
		mustUnion(t, l...)
		if got := space.Union(space.Union(l...)); !slices.Equal(got, space.Union(l...)) {
			t.Fatalf("Union of the Union of %v = %v", l, got)
		}
		slices.Reverse(l)
		mustUnion(t, l...)
	}
}

// TestUnionHasNoLimit: it is no sector that stands in the lists.
func TestUnionHasNoLimit(t *testing.T) {
	all := span(-20000, 20000)
	for seed := range int64(3) {
		mixed := shuffled(append(slices.Clone(all), all...), seed)
		if got := space.Union(mixed[:30000], mixed[30000:]); !slices.Equal(got, all) {
			t.Errorf("Union of 80000 numbers = %d numbers", len(got))
		}
	}
}

// P7.2, and P1 to P3 of DOC.md

// room: a copy of a list with room behind it, filled, so that an append in
// place shows.
func room(l []int) []int {
	whole := append(slices.Clone(l), slices.Repeat([]int{-77}, 20)...)
	return whole[:len(l)]
}

// whole: a list as long as its memory is.
func whole(l []int) []int { return l[:cap(l)] }

// spoil: writes over all memory of a list, behind its end too.
func spoil(l []int) {
	for i := range whole(l) {
		whole(l)[i] = -55 - i
	}
}

// calls: each call that answers a list, of lists that it may be asked of.
func calls() map[string]func(used []int) []int {
	return map[string]func([]int) []int{
		"Free": func(used []int) []int { l, _ := space.Free(30, used); return l },
		"Free where all else is used": func(used []int) []int {
			l, _ := space.Free(len(used)+2, used)
			return l
		},
		"Take of 0":          func(used []int) []int { l, _ := space.Take(30, used, 0); return l },
		"Take of 1":          func(used []int) []int { l, _ := space.Take(30, used, 1); return l },
		"Take of some":       func(used []int) []int { l, _ := space.Take(30, used, 7); return l },
		"Take of all":        func(used []int) []int { l, _ := space.Take(30, used, 28-len(used)); return l },
		"Union of one":       func(used []int) []int { return space.Union(used) },
		"Union of two":       func(used []int) []int { return space.Union(used, used) },
		"Union with nothing": func(used []int) []int { return space.Union(nil, used, []int{}) },
		"Union with others":  func(used []int) []int { return space.Union([]int{9, 1}, used, []int{40}) },
	}
}

// listsForMemory: rising and not, so that no call can hand back what it got.
func listsForMemory() [][]int {
	return [][]int{nil, {}, {2}, {9}, {2, 3, 4, 5}, {5, 4, 3, 2}, {29, 2, 17}, {2, 3, 5, 8, 13, 21}}
}

func TestArgumentsStay(t *testing.T) {
	for name, call := range calls() {
		for _, l := range listsForMemory() {
			given := room(l)
			ahead := slices.Clone(whole(given))
			call(given)
			space.Check(30, given)
			if !slices.Equal(whole(given), ahead) {
				t.Errorf("%s of %v: the list was changed", name, l)
			}
		}
	}
}

// TestArgumentsStayBesideAnError: lists with faults, too.
func TestArgumentsStayBesideAnError(t *testing.T) {
	for _, l := range [][]int{{2, 2}, {9, 1, 9}, {30}, {-1, 5, 4, 5, 3}, {4, 3, 4}} {
		given := room(l)
		ahead := slices.Clone(whole(given))
		space.Check(30, given)
		space.Free(30, given)
		space.Take(30, given, 2)
		space.Take(30, given, -1)
		space.Union(given, given)
		if !slices.Equal(whole(given), ahead) {
			t.Errorf("%v was changed beside an error", l)
		}
	}
}

// TestUnionLeavesTheListOfLists: what is handed in as l... is memory, too.
func TestUnionLeavesTheListOfLists(t *testing.T) {
	a, b := room([]int{9, 4, 9}), room([]int{3})
	lists := [][]int{a, nil, b, {8}, {7}}
	space.Union(lists[:3]...)
	want := [][]int{{9, 4, 9}, nil, {3}, {8}, {7}}
	if !slices.EqualFunc(lists, want, slices.Equal[[]int]) || &lists[0][0] != &a[0] || &lists[2][0] != &b[0] {
		t.Errorf("Union changed the list of lists: %v", lists)
	}
}

func TestAnswersShareNoMemory(t *testing.T) {
	for name, call := range calls() {
		for _, l := range listsForMemory() {
			given := room(l)
			one := call(given)
			want := slices.Clone(one)
			spoil(given)
			if !slices.Equal(one, want) {
				t.Errorf("%s of %v: the answer shares memory with the list", name, l)
			}
			given = room(l)
			ahead := slices.Clone(whole(given))
			two, three := call(given), call(given)
			spoil(two)
			if !slices.Equal(whole(given), ahead) {
				t.Errorf("%s of %v: the list shares memory with the answer", name, l)
			}
			if !slices.Equal(one, want) || !slices.Equal(three, want) {
				t.Errorf("%s of %v: two answers share memory", name, l)
			}
			if again := call(given); !slices.Equal(again, want) {
				t.Errorf("%s of %v = %v behind a write over an answer, want %v", name, l, again, want)
			}
		}
	}
}

// TestCallsShareNoMemory: nor do the answers of one call and another.
func TestCallsShareNoMemory(t *testing.T) {
	used := []int{2, 3, 5, 8, 13, 21}
	for name, call := range calls() {
		for other, next := range calls() {
			one, two := call(used), next(used)
			want := slices.Clone(two)
			spoil(one)
			if !slices.Equal(two, want) {
				t.Errorf("%s and %s share memory", name, other)
			}
		}
	}
}

// TestTheSameEachTime: whatever order a map is gone through in, whatever was
// asked between.
func TestTheSameEachTime(t *testing.T) {
	for name, call := range calls() {
		for _, l := range listsForMemory() {
			want := call(slices.Clone(l))
			for i := range 50 {
				space.Take(2+i, []int{2, 3}, i)
				space.Union([]int{i, -i}, l)
				if got := call(slices.Clone(l)); !slices.Equal(got, want) {
					t.Fatalf("%s of %v = %v, and %v before", name, l, got, want)
				}
			}
		}
	}
}

// TestTheOrderOfTheListSaysNothing: only which numbers stand in it.
func TestTheOrderOfTheListSaysNothing(t *testing.T) {
	used := []int{2, 3, 5, 8, 13, 21, 28, 29}
	for name, call := range calls() {
		want := call(used)
		for seed := range int64(30) {
			if got := call(shuffled(used, seed)); !slices.Equal(got, want) {
				t.Fatalf("%s of %v = %v, want %v", name, shuffled(used, seed), got, want)
			}
		}
	}
}

// TestNilAndEmptyAreOne: P1 of DOC.md.
func TestNilAndEmptyAreOne(t *testing.T) {
	for _, total := range append(noTotals(), 2, 3, 9, most) {
		if a, b := space.Check(total, nil), space.Check(total, []int{}); a != b {
			t.Errorf("Check(%d): no list and an empty one are told apart", total)
		}
		a, errA := space.Free(total, nil)
		b, errB := space.Free(total, []int{})
		if errA != errB || !slices.Equal(a, b) {
			t.Errorf("Free(%d): no list and an empty one are told apart", total)
		}
		for _, n := range []int{-1, 0, 1, most} {
			a, errA := space.Take(total, nil, n)
			b, errB := space.Take(total, []int{}, n)
			if errA != errB || !slices.Equal(a, b) {
				t.Errorf("Take(%d, .., %d): no list and an empty one are told apart", total, n)
			}
		}
	}
}
