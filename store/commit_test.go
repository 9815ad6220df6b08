package store_test

import (
	"bytes"
	"math"
	"math/rand"
	"slices"
	"strings"
	"testing"

	"godown/api"
	"godown/device"
	"godown/store"
)

// wantErr: the error of a commit into a store that may be.
func wantErr(s api.Store, l []api.Object) api.Errno {
	if len(l) > maxObjects {
		return api.ErrCount
	}
	for i, o := range l {
		if len(o.Key) == 0 || len(o.Key) > maxKey || i > 0 && strings.Compare(l[i-1].Key, o.Key) >= 0 {
			return api.ErrName
		}
	}
	var placed []api.Object
	for _, o := range l {
		if len(o.Data) > maxField {
			return api.ErrLong
		}
		placed = append(placed, api.Object{Key: o.Key, Data: o.Data, At: make([]int, pagesOf(len(o.Data)))})
	}
	if len(indexOf(placed)) > maxField {
		return api.ErrLong
	}
	if s.Uber.Txg == maxAmount {
		return api.ErrOver
	}
	return api.OK
}

// wantCommit: told sector by sector, and by the words alone.
func wantCommit(s api.Store, l []api.Object) (api.Store, []api.Act, api.Errno) {
	if err := wantErr(s, l); err != api.OK {
		return api.Store{}, nil, err
	}
	busy := usedBy(s)
	next := 2
	take := func() int {
		for slices.Contains(busy, next) {
			next++
		}
		next++
		return next - 1
	}
	out := api.Store{Dev: twinDevice(s.Dev), Uber: api.Uber{Txg: s.Uber.Txg + 1, Objects: len(l)}}
	var acts []api.Act
	write := func(at int, b []byte) {
		acts = append(acts, api.Act{At: at, Data: b})
	}
	for _, o := range l {
		n := api.Object{Key: o.Key, Data: o.Data}
		old := slices.IndexFunc(s.Objects, func(x api.Object) bool { return x.Key == o.Key && bytes.Equal(x.Data, o.Data) })
		if old >= 0 {
			n.At = s.Objects[old].At
		} else {
			for _, part := range cut(o.Data) {
				n.At = append(n.At, take())
				write(n.At[len(n.At)-1], pageOf(part, 0))
			}
		}
		out.Objects = append(out.Objects, n)
	}
	if len(l) > 0 {
		parts := cut(indexOf(out.Objects))
		for range parts {
			out.Index = append(out.Index, take())
		}
		for i, part := range parts {
			write(out.Index[i], pageOf(part, append(out.Index, 0)[i+1]))
		}
		out.Uber.First = out.Index[0]
	}
	if next > len(s.Dev.Sectors) {
		return api.Store{}, nil, api.ErrFull
	}
	acts = append(acts, api.Act{Flush: true}, api.Act{At: out.Uber.Txg % 2, Data: uberOf(out.Uber)}, api.Act{Flush: true})
	for _, a := range acts {
		if !a.Flush {
			copy(out.Dev.Sectors[a.At], a.Data)
		}
	}
	return out, acts, api.OK
}

// mustCommit: as the words say; the store behind it, or the one ahead if there
// is an error.
func mustCommit(t *testing.T, s api.Store, l []api.Object, what string) api.Store {
	t.Helper()
	out, acts, err := store.Commit(s, l)
	want, wantActs, wantErr := wantCommit(s, l)
	if err != wantErr || !same(out, want) || !sameActs(acts, wantActs) {
		t.Fatalf("Commit %s: %v, Index %v, %d acts, %d; want %v, Index %v, %d acts, %d",
			what, out.Uber, out.Index, len(acts), err, want.Uber, want.Index, len(wantActs), wantErr)
	}
	if err != api.OK {
		return s
	}
	mustFollow(t, s, l, out, acts, what)
	return out
}

// mustFollow: what the chapter says of any commit, whichever sectors it took.
func mustFollow(t *testing.T, s api.Store, l []api.Object, out api.Store, acts []api.Act, what string) {
	t.Helper()
	if err := store.Check(out); err != api.OK {
		t.Fatalf("Commit %s: Check of the store behind it = %d", what, err)
	}
	if d, err := device.Do(s.Dev, acts...); err != api.OK || !sameDevice(d, out.Dev) {
		t.Fatalf("Commit %s: its acts make another device (%d)", what, err)
	}
	for _, a := range acts {
		if slices.Contains(usedBy(s), a.At) {
			t.Fatalf("Commit %s: writes sector %d, which is used", what, a.At)
		}
	}
	for i, o := range out.Objects {
		if o.Key != l[i].Key || !bytes.Equal(o.Data, l[i].Data) {
			t.Fatalf("Commit %s: object %d is %q", what, i, o.Key)
		}
		for _, old := range s.Objects {
			if old.Key == o.Key && bytes.Equal(old.Data, o.Data) && !slices.Equal(old.At, o.At) {
				t.Fatalf("Commit %s: %q did not change, and goes from %v to %v", what, o.Key, old.At, o.At)
			}
		}
	}
	if store.Used(out) != store.Need(l) {
		t.Fatalf("Commit %s: Used %d, Need %d", what, store.Used(out), store.Need(l))
	}
}

func mustNotCommit(t *testing.T, s api.Store, l []api.Object, want api.Errno, what string) {
	t.Helper()
	out, acts, err := store.Commit(s, l)
	if err != want || !isZero(out) || len(acts) != 0 {
		t.Errorf("Commit %s = %v, %d acts, %d, want %d alone", what, out.Uber, len(acts), err, want)
	}
}

// with: the list with an object put in its place by its key.
func with(l []api.Object, o api.Object) []api.Object {
	out := without(l, o.Key)
	i, _ := slices.BinarySearchFunc(out, o, func(a, b api.Object) int { return strings.Compare(a.Key, b.Key) })
	return slices.Insert(out, i, o)
}

func without(l []api.Object, key string) []api.Object {
	return slices.DeleteFunc(twinObjects(l), func(o api.Object) bool { return o.Key == key })
}

// P10.2

// TestCommitByHand: sectors, pages and acts that were worked out aside.
func TestCommitByHand(t *testing.T) {
	s, _, _ := store.Format(8)
	out, acts, err := store.Commit(s, []api.Object{{Key: "a", Data: []byte("b")}})
	index := "\x00\x03" + "\x00\x00\x01" + "a" + "\x00\x00\x08" + "\x00\x00\x00\x00\x00\x00\x00\x01" + "\x00\x00\x08" + "\x00\x00\x00\x00\x00\x00\x00\x02"
	u := api.Uber{Txg: 3, First: 3, Objects: 1}
	want := []api.Act{
		{At: 2, Data: pageOf([]byte("b"), 0)},
		{At: 3, Data: pageOf([]byte(index), 0)},
		{Flush: true},
		{At: 1, Data: uberOf(u)},
		{Flush: true},
	}
	if err != api.OK || !sameActs(acts, want) || out.Uber != u || !slices.Equal(out.Index, []int{3}) || !slices.Equal(out.Objects[0].At, []int{2}) {
		t.Errorf("one object: %v, %v, %v, %d", out, acts, want, err)
	}
	// A second one ahead of it: it stays in 2, the new one takes 4 and 5, the
	// index 6 and 7.
	l := []api.Object{{Key: "A", Data: text(1, 53)}, {Key: "a", Data: []byte("b")}}
	s, acts, err = store.Commit(out, l)
	texts := textsOf("A", numbersOf(53), numbersOf(4, 5), "a", numbersOf(1), numbersOf(2))
	u = api.Uber{Txg: 4, First: 6, Objects: 2}
	want = []api.Act{
		{At: 4, Data: pageOf(text(1, 53)[:52], 0)},
		{At: 5, Data: pageOf(text(1, 53)[52:], 0)},
		{At: 6, Data: pageOf(texts[:52], 7)},
		{At: 7, Data: pageOf(texts[52:], 0)},
		{Flush: true},
		{At: 0, Data: uberOf(u)},
		{Flush: true},
	}
	if err != api.OK || !sameActs(acts, want) || s.Uber != u || !slices.Equal(s.Index, []int{6, 7}) {
		t.Errorf("two objects: %v, %v, %d", s.Uber, acts, err)
	}
	// Now 3 alone is free: for one page of an index, not for two.
	mustNotCommit(t, s, l, api.ErrFull, "of the same two with 1 free sector")
	mustNotCommit(t, s, with(l[1:], api.Object{Key: "a", Data: []byte("c")}), api.ErrFull, "of a changed one with 1 free sector")
	out, acts, err = store.Commit(s, l[1:])
	u = api.Uber{Txg: 5, First: 3, Objects: 1}
	want = []api.Act{{At: 3, Data: pageOf([]byte(index), 0)}, {Flush: true}, {At: 1, Data: uberOf(u)}, {Flush: true}}
	if err != api.OK || !sameActs(acts, want) || out.Uber != u || !slices.Equal(out.Objects[0].At, []int{2}) {
		t.Errorf("one gone: %v, %v, %d", out.Uber, acts, err)
	}
	out, acts, err = store.Commit(out, nil)
	u = api.Uber{Txg: 6}
	want = []api.Act{{Flush: true}, {At: 0, Data: uberOf(u)}, {Flush: true}}
	if err != api.OK || !sameActs(acts, want) || out.Uber != u || len(out.Objects) != 0 || len(out.Index) != 0 {
		t.Errorf("all gone: %v, %v, %d", out.Uber, acts, err)
	}
}

func TestCommitOfFewAndMany(t *testing.T) {
	most, _ := bigObjects(maxObjects+1, 5)
	for _, n := range []int{0, 1, 2, 3, 85, 86, 170, 171, 255, 256, 257} {
		s := mustCommit(t, made(1000), most[:n], "of so many")
		if n <= maxObjects && (s.Uber.Objects != n || len(s.Objects) != n) {
			t.Errorf("%d objects: %v", n, s.Uber)
		}
		mustCommit(t, s, most[:min(n, 9)], "of fewer")
	}
	mustNotCommit(t, made(1000), most, api.ErrCount, "of 257")
	mustNotCommit(t, made(1000), slices.Concat(most, most), api.ErrCount, "of 514")
}

func TestCommitOfEdgeSizes(t *testing.T) {
	var all []api.Object
	for _, size := range []int{0, 1, 51, 52, 53, 103, 104, 105, 1000, maxField - 1, maxField} {
		o := object("k", size)
		s := mustCommit(t, made(3500), []api.Object{o}, "of one size")
		if b, is := store.Get(s, "k"); !is || !bytes.Equal(b, o.Data) {
			t.Errorf("%d octets are not there", size)
		}
		mustCommit(t, s, []api.Object{o}, "of the same size")
		all = append(all, object(key(size/100, 3)+key(size%100, 3), size))
	}
	mustCommit(t, made(8000), all, "of all sizes")
	for _, size := range []int{maxField + 1, maxField + payload, 2 * maxField} {
		mustNotCommit(t, made(maxSectors), []api.Object{object("k", size)}, api.ErrLong, "of too much Data")
		mustNotCommit(t, made(maxSectors), []api.Object{object("a", 1), object("b", size), object("c", 1)}, api.ErrLong, "of too much Data in the middle")
		mustNotCommit(t, made(2), []api.Object{object("a", 1), object("b", size)}, api.ErrLong, "of too much Data without room")
	}
}

// TestCommitOfALongIndex: of MaxField octets, and of one more: 256 objects
// with 4576 pages in all; each has 17 octets, its key and 8 for a page.
func TestCommitOfALongIndex(t *testing.T) {
	var l []api.Object
	for i := range maxObjects {
		o := api.Object{Key: key(i, maxKey), Data: text(i, payload*17)}
		if i < 224 {
			o.Data = text(i, payload*18)
		}
		l = append(l, o)
	}
	l[7].Key = l[7].Key[:maxKey-2]
	size := 2
	for _, o := range l {
		size += 17 + len(o.Key) + 8*len(o.Data)/payload
	}
	if size != maxField {
		t.Fatalf("an index of %d octets", size)
	}
	s := mustCommit(t, made(maxSectors), l, "of an index of MaxField octets")
	if len(s.Index) != pagesOf(maxField) {
		t.Errorf("an index of MaxField octets has %d pages", len(s.Index))
	}
	if o, err := store.Open(s.Dev); err != api.OK || !same(o, s) {
		t.Errorf("an index of MaxField octets: opened %v, %d", o.Uber, err)
	}
	more := twinObjects(l)
	more[7].Key += "k"
	mustNotCommit(t, made(maxSectors), more, api.ErrLong, "of an index of one octet more")
	mustNotCommit(t, made(2), more, api.ErrLong, "of an index of one octet more, without room")
	more = twinObjects(l)
	more[9].Data = append(more[9].Data, 1)
	mustNotCommit(t, made(maxSectors), more, api.ErrLong, "of an index of one sector more")
}

func TestCommitOfKeys(t *testing.T) {
	longest := strings.Repeat("k", maxKey)
	for _, keys := range [][]string{
		{"a"}, {longest}, {"\x00"}, {"\xff"}, {"a", "b"}, {"a", "aa"}, {"a", "a\x00"}, {"Z", "a"}, {"z", "\xc3\xa4"},
		{longest[:maxKey-1], longest}, {longest[:maxKey-1] + "j", longest}, {"s/b/a/b", "s/b/ab"}, {" ", "@", "\x7f", "\x80"},
	} {
		for range 2 {
			var l []api.Object
			for i, k := range keys {
				l = append(l, api.Object{Key: k, Data: text(i, 70)})
			}
			mustCommit(t, made(60), l, "of keys that rise")
		}
	}
	for _, keys := range [][]string{
		{""}, {longest + "k"}, {strings.Repeat("k", 1000)}, {strings.Repeat("k", maxField+1)}, {"a", "a"}, {"b", "a"}, {"aa", "a"}, {"a", "Z"}, {"\xc3\xa4", "z"},
		{"", "a"}, {"a", ""}, {"", ""}, {"a", longest + "k"}, {longest + "k", "l"}, {longest, longest}, {longest, longest[:maxKey-1]},
		{"a", "b", "b"}, {"a", "a", "b"}, {"a", "c", "b"}, {"b", "a", "c"}, {"a", "b", "a"}, {"a", "b", ""}, {"a", "b", "c", "d", "cc"},
	} {
		var l []api.Object
		for i, k := range keys {
			l = append(l, api.Object{Key: k, Data: text(i, 70)})
		}
		mustNotCommit(t, made(2000), l, api.ErrName, "of keys that do not")
		mustNotCommit(t, made(2), l, api.ErrName, "of keys that do not, without room")
	}
}

// TestCommitTellsItsErrorsInOrder: lists and stores with each mix of faults.
func TestCommitTellsItsErrorsInOrder(t *testing.T) {
	most, _ := bigObjects(maxObjects+1, 5)
	wantOrder := []api.Errno{api.ErrState, api.ErrCount, api.ErrName, api.ErrLong, api.ErrOver, api.ErrFull}
	for mix := range 1 << len(wantOrder) {
		has := func(err api.Errno) bool { return mix>>slices.Index(wantOrder, err)&1 == 1 }
		s, l := good(), twinObjects(most[:3])
		want := api.OK
		for i := len(wantOrder) - 1; i >= 0; i-- {
			if has(wantOrder[i]) {
				want = wantOrder[i]
			}
		}
		if has(api.ErrFull) {
			l[1].Data = text(1, 1000)
		}
		if has(api.ErrOver) {
			s.Uber.Txg = maxAmount
		}
		if has(api.ErrLong) {
			l[1].Data = text(1, maxField+1)
		}
		if has(api.ErrCount) {
			l = append(l, most[3:]...)
		}
		if has(api.ErrName) {
			l[2].Key = l[0].Key
		}
		if has(api.ErrState) {
			s.Objects[2].At[0] = 1
		}
		if want == api.OK {
			mustCommit(t, s, l, "without a fault")
		} else {
			mustNotCommit(t, s, l, want, "of several faults")
		}
	}
	// A name's error in the last object goes ahead of a length's in the first.
	mustNotCommit(t, good(), []api.Object{{Key: "a", Data: make([]byte, maxField+1)}, {Key: "a"}}, api.ErrName, "of a long one, and no name behind it")
	mustNotCommit(t, good(), []api.Object{{Key: "", Data: make([]byte, maxField+1)}}, api.ErrName, "of a long one without a name")
}

func TestCommitOfStoresThatMayNotBe(t *testing.T) {
	for what, s := range mayNotBe() {
		mustNotCommit(t, s, objects(1, 60), api.ErrState, "into "+what)
		mustNotCommit(t, s, nil, api.ErrState, "of none into "+what)
		mustNotCommit(t, s, s.Objects, api.ErrState, "of the same into "+what)
		mustNotCommit(t, s, []api.Object{{}, {}}, api.ErrState, "of no names into "+what)
	}
}

func TestCommitOfStoresThatMayBe(t *testing.T) {
	for what, s := range mayBe() {
		mustCommit(t, s, objects(1, 60), "into a store "+what)
		mustCommit(t, s, nil, "of none into a store "+what)
		mustCommit(t, s, s.Objects, "of the same into a store "+what)
	}
}

func TestCommitAtTheLastTxg(t *testing.T) {
	for _, c := range []struct {
		txg  int
		want api.Errno
	}{
		{1, api.OK}, {2, api.OK}, {3, api.OK}, {1 << 32, api.OK}, {maxAmount - 2, api.OK}, {maxAmount - 1, api.OK}, {maxAmount, api.ErrOver},
	} {
		s := but(good(), func(s *api.Store) { s.Uber.Txg = c.txg })
		out, acts, err := store.Commit(s, objects(3, 4))
		if err != c.want {
			t.Fatalf("Commit at Txg %d = %d, want %d", c.txg, err, c.want)
		}
		if err == api.OK && (out.Uber.Txg != c.txg+1 || acts[len(acts)-2].At != (c.txg+1)%2) {
			t.Errorf("Commit at Txg %d: %v, in slot %d", c.txg, out.Uber, acts[len(acts)-2].At)
		}
		mustCommit(t, s, nil, "of none at an edge Txg")
		mustCommit(t, s, s.Objects, "of the same at an edge Txg")
	}
}

// TestCommitWithJustRoom: as many free sectors as it needs, and one fewer; in
// stores of several looks, and wherever the free ones are.
func TestCommitWithJustRoom(t *testing.T) {
	r := rand.New(rand.NewSource(103))
	for _, ahead := range [][]api.Object{nil, objects(0), objects(60), objects(1, 0, 105), objects(52, 53, 54)} {
		for _, l := range [][]api.Object{nil, objects(0), objects(1), objects(52), objects(53), objects(60, 7), objects(1, 0, 105), objects(300), objects(0, 0, 0, 0, 0)} {
			s := committed(t, 60, ahead)
			_, acts, _ := wantCommit(s, l)
			writes := len(acts) - 3
			free := freeOf(s)
			r.Shuffle(len(free), func(i, j int) { free[i], free[j] = free[j], free[i] })
			s.Index = append(s.Index, free[writes:]...)
			mustFit(t, s, l, writes)
		}
	}
	mustCommit(t, made(2), nil, "of none where there is no room")
	mustNotCommit(t, made(2), objects(0), api.ErrFull, "of one where there is no room")
	mustNotCommit(t, made(3), objects(1), api.ErrFull, "of one with room for its index alone")
	mustCommit(t, made(3), objects(0), "of one that needs an index alone")
	mustCommit(t, made(4), objects(1), "of one with just room")
}

// mustFit: the list has just room in the store, and none if a sector more is
// used.
func mustFit(t *testing.T, s api.Store, l []api.Object, writes int) {
	t.Helper()
	free := freeOf(s)
	if len(free) != writes {
		t.Fatalf("%d sectors are free, not %d", len(free), writes)
	}
	out, _, err := store.Commit(s, l)
	if err != api.OK {
		t.Errorf("Commit with %d free sectors = %d", writes, err)
	}
	mustCommit(t, s, l, "with just room")
	for _, at := range free {
		if !slices.Contains(usedBy(out), at) {
			t.Errorf("Commit with just room does not use sector %d", at)
		}
		fewer := but(s, func(s *api.Store) { s.Index = append(s.Index, at) })
		mustNotCommit(t, fewer, l, api.ErrFull, "with one free sector fewer")
	}
}

func freeOf(s api.Store) []int {
	var out []int
	for at := 2; at < len(s.Dev.Sectors); at++ {
		if !slices.Contains(usedBy(s), at) {
			out = append(out, at)
		}
	}
	return out
}

// TestCommitOfChanges: the same again, one changed, one gone, one new.
func TestCommitOfChanges(t *testing.T) {
	l := objects(60, 0, 52, 105, 1)
	s := mustCommit(t, made(60), l, "of five")
	again := mustCommit(t, s, l, "of the same")
	if !sameObjects(again.Objects, s.Objects) || slices.Equal(again.Index, s.Index) {
		t.Errorf("the same again: %v, %v", again.Objects, again.Index)
	}
	for _, o := range l {
		for _, d := range [][]byte{nil, text(1, 1), text(2, 52), text(3, 60), text(4, 61), text(5, 105), append(bytes.Clone(o.Data), 0), bytes.Repeat([]byte{7}, len(o.Data))} {
			mustCommit(t, s, with(l, api.Object{Key: o.Key, Data: d}), "of one that is changed")
			mustCommit(t, again, with(l, api.Object{Key: o.Key, Data: d}), "of one that is changed later")
		}
		mustCommit(t, s, without(l, o.Key), "of one gone")
		mustCommit(t, again, with(without(l, o.Key), api.Object{Key: o.Key + "x", Data: o.Data}), "of one by another key")
		for i := range o.Data {
			d := bytes.Clone(o.Data)
			d[i] ^= 0x80
			mustCommit(t, s, with(l, api.Object{Key: o.Key, Data: d}), "of one octet changed")
		}
	}
	for _, k := range []string{"A", "aaa", "ab0", "zz"} {
		mustCommit(t, s, with(l, api.Object{Key: k, Data: text(9, 60)}), "of one that is new")
		mustCommit(t, s, with(l, api.Object{Key: k, Data: l[0].Data}), "of one that is new with another one's Data")
		mustCommit(t, s, with(l, api.Object{Key: k}), "of one that is new without Data")
	}
	mustCommit(t, s, objects(52, 60), "of Data that go from key to key")
}

// TestAtOfTheListIsNotLookedAt
func TestAtOfTheListIsNotLookedAt(t *testing.T) {
	s := good()
	for _, at := range [][]int{nil, {2}, {0, 1, -1}, {7}, {10, 4, 18}, {math.MaxInt, math.MinInt}, make([]int, 10000)} {
		l := twinObjects(s.Objects)
		l[2].Data[3] ^= 1
		l[3].Data = nil
		for i := range l {
			l[i].At = at
		}
		mustCommit(t, s, l, "of objects that stand anywhere")
	}
}

// TestHistories: commit behind commit, in small devices and in larger ones.
func TestHistories(t *testing.T) {
	r := rand.New(rand.NewSource(102))
	for range 60 {
		s := made(2 + r.Intn(60))
		var l []api.Object
		for range 25 {
			l = changed(r, l)
			s = mustCommit(t, s, l, "in a history")
			l = s.Objects
			if o, err := store.Open(s.Dev); err != api.OK || !same(o, s) {
				t.Fatalf("opened: %v, %d, want %v", o.Uber, err, s.Uber)
			}
		}
	}
}

// changed: the list with some changes.
func changed(r *rand.Rand, l []api.Object) []api.Object {
	l = twinObjects(l)
	for range r.Intn(4) {
		k := string([]byte{'a' + byte(r.Intn(8))})
		if r.Intn(3) == 0 {
			l = without(l, k)
			continue
		}
		size := []int{0, 1, 51, 52, 53, 104, 105, r.Intn(200)}[r.Intn(8)]
		l = with(l, api.Object{Key: k, Data: text(r.Intn(5), size), At: []int{r.Intn(9)}})
	}
	return l
}
