package store_test

import (
	"bytes"
	"math"
	"math/rand"
	"slices"
	"strings"
	"testing"

	"godown/api"
	"godown/device"
	"godown/store"
)

func mustOpen(t *testing.T, d api.Device, want api.Store, what string) {
	t.Helper()
	want.Dev = d
	if s, err := store.Open(d); err != api.OK || !same(s, want) {
		t.Errorf("Open of %s = %v, Index %v, %d, want %v, Index %v", what, s.Uber, s.Index, err, want.Uber, want.Index)
	}
}

func mustNotOpen(t *testing.T, d api.Device, want api.Errno, what string) {
	t.Helper()
	if s, err := store.Open(d); err != want || !isZero(s) {
		t.Errorf("Open of %s = %v, %v, %d, want %d alone", what, s.Uber, s.Objects, err, want)
	}
}

// put: the device with other octets in a sector.
func put(d api.Device, at int, b []byte) api.Device {
	out := twinDevice(d)
	out.Sectors[at] = b
	return out
}

// layer: a device of n sectors on which any octets stand as the index, with
// the number of objects that is told.
func layer(n int, objects int, index []byte, at ...int) api.Device {
	d := made(n).Dev
	parts := cut(index)
	nexts := append(slices.Clone(at[1:len(parts)]), 0)
	for i, part := range parts {
		d.Sectors[at[i]] = pageOf(part, nexts[i])
	}
	d.Sectors[1] = uberOf(api.Uber{Txg: 3, First: at[0], Objects: objects})
	return d
}

// P10.3

func TestOpen(t *testing.T) {
	for what, s := range map[string]api.Store{
		"of no objects":          made(2),
		"of several":             good(),
		"of one in a falling At": stood(9, 1, []api.Object{{Key: "a", Data: text(1, 150), At: []int{8, 7, 2}}}, 5),
		"of a falling index":     stood(9, 1, []api.Object{{Key: strings.Repeat("k", maxKey), Data: text(1, 1), At: []int{3}}}, 8, 5, 2),
		"of one without Data":    stood(3, 2, []api.Object{{Key: "a"}}, 2),
		"of the last Txg":        stood(4, maxAmount, []api.Object{{Key: "a", Data: text(1, 1), At: []int{3}}}, 2),
		"of the first Txg":       stood(4, 1, []api.Object{{Key: "a", Data: text(1, 1), At: []int{3}}}, 2),
	} {
		mustOpen(t, s.Dev, s, "a store "+what)
		again, _, err := store.Commit(s, s.Objects)
		if s.Uber.Txg < maxAmount && err == api.OK {
			mustOpen(t, again.Dev, again, "a store, committed again, "+what)
		}
	}
	most, index := bigObjects(maxObjects, maxKey)
	s := stood(1000, 7, most, index...)
	mustOpen(t, s.Dev, s, "256 objects")
	long := api.Object{Key: "a", Data: text(1, maxField), At: riseFrom(1000, pagesOf(maxField))}
	s = stood(4000, 7, []api.Object{long}, riseFrom(3000, pagesOf(len(indexOf([]api.Object{long}))))...)
	mustOpen(t, s.Dev, s, "MaxField octets")
}

// TestOpenOfTheChapter: commit, open: the objects.
func TestOpenOfTheChapter(t *testing.T) {
	for _, l := range [][]api.Object{nil, objects(0), objects(1), objects(60, 0, 52, 53, 105), {{Key: "a", Data: []byte("b")}}} {
		s := committed(t, 60, l)
		mustOpen(t, s.Dev, s, "what was committed")
		o, _ := store.Open(s.Dev)
		for _, x := range l {
			if b, is := store.Get(o, x.Key); !is || !bytes.Equal(b, x.Data) {
				t.Errorf("%q: %x, %t", x.Key, b, is)
			}
		}
	}
}

func TestOpenOfDevicesThatMayNotBe(t *testing.T) {
	for what, s := range mayNotBe() {
		if device.Check(s.Dev) != api.OK || len(s.Dev.Waits) > 0 {
			mustNotOpen(t, s.Dev, api.ErrState, what)
		}
	}
	for what, d := range map[string]api.Device{
		"nothing":               {},
		"no sectors":            {Sectors: [][]byte{}},
		"1 sector":              {Sectors: made(3).Dev.Sectors[:1]},
		"2^13 + 1 sectors":      {Sectors: append(made(maxSectors).Dev.Sectors, make([]byte, sector))},
		"a short sector":        put(good().Dev, 17, make([]byte, 63)),
		"a short first sector":  put(good().Dev, 0, make([]byte, 32)),
		"a long sector":         put(good().Dev, 2, make([]byte, 65)),
		"a sector of no octets": put(good().Dev, 19, nil),
	} {
		mustNotOpen(t, d, api.ErrState, what)
	}
}

// TestOpenWithAWriteThatWaits: whatever it would do, and whatever else is
// wrong.
func TestOpenWithAWriteThatWaits(t *testing.T) {
	for _, d := range []api.Device{good().Dev, made(2).Dev, {Sectors: [][]byte{make([]byte, sector), make([]byte, sector)}}} {
		for _, a := range []api.Act{{At: 1, Data: d.Sectors[1]}, {At: 0, Data: make([]byte, sector)}, {At: len(d.Sectors) - 1, Data: text(1, sector)}} {
			waiting, err := device.Do(d, a)
			if err != api.OK {
				t.Fatal(err)
			}
			mustNotOpen(t, waiting, api.ErrState, "a device with a write that waits")
		}
	}
}

func TestOpenWithoutUberblocks(t *testing.T) {
	for _, n := range []int{2, 3, 20, maxSectors} {
		d, _ := device.New(n)
		mustNotOpen(t, d, api.ErrCorrupt, "zeros")
	}
	s := good()
	mustNotOpen(t, put(s.Dev, 0, make([]byte, sector)), api.ErrCorrupt, "a store without its uberblock")
	mustNotOpen(t, put(s.Dev, 0, s.Dev.Sectors[7]), api.ErrCorrupt, "a store with a page for its uberblock")
	mustNotOpen(t, put(put(s.Dev, 0, make([]byte, sector)), 2, s.Dev.Sectors[0]), api.ErrCorrupt, "a store with its uberblock elsewhere")
}

// TestOpenOfTheNewerOne: of two uberblocks the greater Txg counts; if it is
// none, the other.
func TestOpenOfTheNewerOne(t *testing.T) {
	for _, l := range [][]api.Object{nil, objects(3), objects(60, 0, 105)} {
		ahead := committed(t, 60, objects(60, 1), l)
		for _, next := range [][]api.Object{nil, l, objects(60, 4, 105), objects(9)} {
			s, _, _ := store.Commit(ahead, next)
			newer, older := s.Uber.Txg%2, ahead.Uber.Txg%2
			mustOpen(t, s.Dev, s, "two uberblocks")
			for i := range sector {
				turned := bytes.Clone(s.Dev.Sectors[newer])
				turned[i] ^= 1 << (i % 8)
				mustOpen(t, put(s.Dev, newer, turned), ahead, "a newer uberblock with an octet turned")
				mustNotOpen(t, put(put(s.Dev, newer, turned), older, make([]byte, sector)), api.ErrCorrupt, "no uberblock")
				turned = bytes.Clone(s.Dev.Sectors[older])
				turned[i] ^= 1 << (i % 8)
				mustOpen(t, put(s.Dev, older, turned), s, "an older uberblock with an octet turned")
			}
		}
	}
}

// TestOpenOfOneTxgTwice: of two uberblocks as new the first sector's counts.
func TestOpenOfOneTxgTwice(t *testing.T) {
	for txg := 5; txg < 7; txg++ {
		one := stood(12, txg, []api.Object{{Key: "a", Data: text(1, 9), At: []int{3}}}, 4)
		two := stood(12, txg, []api.Object{{Key: "b", Data: text(2, 9), At: []int{5}}}, 6)
		for at := range 2 {
			d := twinDevice(one.Dev)
			d.Sectors[5], d.Sectors[6] = two.Dev.Sectors[5], two.Dev.Sectors[6]
			d.Sectors[at], d.Sectors[1-at] = uberOf(one.Uber), uberOf(two.Uber)
			mustOpen(t, d, []api.Store{one, two}[at], "two uberblocks of one Txg")
		}
	}
}

// TestOpenOfEachOctetTurned: in each sector that the store uses; in others it
// is not to be seen.
func TestOpenOfEachOctetTurned(t *testing.T) {
	for _, s := range []api.Store{good(), committed(t, 24, objects(53, 0, 1), objects(53, 105))} {
		for at := 2; at < len(s.Dev.Sectors); at++ {
			for i := range sector {
				for _, bit := range []byte{1, 0x80, 0xff} {
					turned := bytes.Clone(s.Dev.Sectors[at])
					turned[i] ^= bit
					if d := put(s.Dev, at, turned); slices.Contains(usedBy(s), at) {
						mustNotOpen(t, d, api.ErrCorrupt, "a store with an octet turned")
					} else {
						mustOpen(t, d, s, "a store with an octet turned where nothing stands")
					}
				}
			}
		}
	}
}

// TestOpenOfSectorsThatAreLost: each one zeros, a page of no octets, or what
// stands in another one.
func TestOpenOfSectorsThatAreLost(t *testing.T) {
	s := good()
	for _, at := range usedBy(s) {
		mustNotOpen(t, put(s.Dev, at, make([]byte, sector)), api.ErrCorrupt, "a store with a sector of zeros")
		mustNotOpen(t, put(s.Dev, at, pageOf(nil, 5)), api.ErrCorrupt, "a store with an empty page")
		mustNotOpen(t, put(s.Dev, at, bytes.Repeat([]byte{0xff}, sector)), api.ErrCorrupt, "a store with a sector of ones")
		mustNotOpen(t, put(s.Dev, at, s.Dev.Sectors[0]), api.ErrCorrupt, "a store with an uberblock for a page")
	}
}

// TestOpenOfNexts: each page of the index with each next but its own.
func TestOpenOfNexts(t *testing.T) {
	l := []api.Object{{Key: "a", Data: text(1, 150), At: []int{3, 9, 4}}, {Key: "b", Data: text(1, 60), At: []int{12, 13}}, {Key: "c", Data: text(2, 2), At: []int{5}}, {Key: "d"}}
	s := stood(16, 5, l, 7, 2, 11)
	mustOpen(t, s.Dev, s, "an index of 3 pages")
	parts := cut(indexOf(l))
	if len(parts) != 3 || len(parts[2]) == payload {
		t.Fatalf("an index of %d pages", len(parts))
	}
	for i, part := range parts {
		own := append(s.Index, 0)[i+1]
		for next := range 40 {
			if next != own {
				mustNotOpen(t, put(s.Dev, s.Index[i], pageOf(part, next)), api.ErrCorrupt, "an index with another next")
			}
		}
		for _, next := range []int{255, 256, 4096 + own, maxSectors - 1, maxSectors, maxSectors + own, 1<<16 - 1} {
			mustNotOpen(t, put(s.Dev, s.Index[i], pageOf(part, next)), api.ErrCorrupt, "an index with a next of no sector")
		}
	}
}

// TestOpenOfANextBehindTheEnd: with the last page full, or not, and whatever
// stands where it goes.
func TestOpenOfANextBehindTheEnd(t *testing.T) {
	for _, k := range []string{"a", strings.Repeat("k", 25), strings.Repeat("k", 26), strings.Repeat("k", 77), strings.Repeat("k", 80)} {
		l := []api.Object{{Key: k, Data: text(1, 1), At: []int{3}}}
		parts := cut(indexOf(l))
		s := stood(9, 5, l, []int{2, 4, 5}[:len(parts)]...)
		mustOpen(t, s.Dev, s, "an index")
		last := s.Index[len(parts)-1]
		on := put(s.Dev, last, pageOf(parts[len(parts)-1], 7))
		mustNotOpen(t, on, api.ErrCorrupt, "an index that goes on to zeros")
		for what, b := range map[string][]byte{
			"an empty page":             pageOf(nil, 0),
			"an empty page, and on":     pageOf(nil, 8),
			"a page of a zero":          pageOf([]byte{0}, 0),
			"a page of an octet":        pageOf([]byte{9}, 0),
			"a full page":               pageOf(text(1, payload), 0),
			"a full page, and on":       pageOf(text(1, payload), 8),
			"a page of the index again": pageOf(parts[0], 0),
			"an object's page":          s.Dev.Sectors[3],
			"no page":                   bytes.Repeat([]byte{1}, sector),
			"an uberblock":              s.Dev.Sectors[1],
		} {
			mustNotOpen(t, put(on, 7, b), api.ErrCorrupt, "an index that goes on to "+what)
		}
	}
}

// TestOpenOfPagesThatAreNotFull: an index, and an object, stand in pages of 52
// octets each, but for the last.
func TestOpenOfPagesThatAreNotFull(t *testing.T) {
	l := []api.Object{{Key: strings.Repeat("k", 40), Data: text(1, 60), At: []int{3, 4}}}
	s := stood(12, 5, l, 5, 6)
	mustOpen(t, s.Dev, s, "full pages")
	index := indexOf(l)
	for size := range payload {
		if size >= len(index)-payload {
			d := put(put(s.Dev, 5, pageOf(index[:size], 6)), 6, pageOf(index[size:], 0))
			mustNotOpen(t, d, api.ErrCorrupt, "an index with a first page that is not full")
		}
		if size >= len(l[0].Data)-payload {
			d := put(put(s.Dev, 3, pageOf(l[0].Data[:size], 0)), 4, pageOf(l[0].Data[size:], 0))
			mustNotOpen(t, d, api.ErrCorrupt, "an object with a first page that is not full")
		}
	}
	for _, at := range []int{0, 20, 52, 60} {
		d := twinDevice(s.Dev)
		d.Sectors[5] = pageOf(index[:min(at, payload)], 6)
		d.Sectors[6] = pageOf(index[min(at, payload):at], 7)
		d.Sectors[7] = pageOf(index[at:min(at+payload, len(index))], 8)
		d.Sectors[8] = pageOf(index[min(at+payload, len(index)):], 0)
		mustNotOpen(t, d, api.ErrCorrupt, "an index in more pages than it needs")
	}
}

func TestOpenOfAFirstThatIsNone(t *testing.T) {
	l := []api.Object{{Key: strings.Repeat("k", 50), Data: text(1, 60), At: []int{3, 4}}}
	s := stood(12, 5, l, 5, 6)
	for first := range maxSectors {
		if first >= 2 && first != 5 && (first < 20 || first%500 == 0 || first > maxSectors-3) {
			mustNotOpen(t, put(s.Dev, 1, uberOf(api.Uber{Txg: 5, First: first, Objects: 1})), api.ErrCorrupt, "a store whose First is another")
		}
	}
	for _, u := range []api.Uber{{Txg: 5, First: 0, Objects: 1}, {Txg: 5, First: 1, Objects: 1}, {Txg: 5, First: 5}, {Txg: 5, First: maxSectors, Objects: 1}, {First: 5, Objects: 1}} {
		mustNotOpen(t, put(s.Dev, 1, uberOf(u)), api.ErrCorrupt, "a store whose uberblock may not be")
	}
}

// TestOpenOfAnotherNumberOfObjects
func TestOpenOfAnotherNumberOfObjects(t *testing.T) {
	s := good()
	for n := 1; n <= 1<<10; n++ {
		d := put(s.Dev, 0, uberOf(api.Uber{Txg: 6, First: 10, Objects: n}))
		if n == len(s.Objects) {
			mustOpen(t, d, s, "its number of objects")
		} else {
			mustNotOpen(t, d, api.ErrCorrupt, "another number of objects")
		}
	}
	for objects := 1; objects < 3; objects++ {
		for n := range 10 {
			var texts []string
			for i := range n {
				texts = append(texts, []string{key(i, 3), numbersOf(0), ""}[i%3])
			}
			d := layer(9, objects, textsOf(texts...), 2, 3, 4)
			if n == 3*objects {
				mustOpen(t, d, api.Store{Uber: api.Uber{Txg: 3, First: 2, Objects: objects}, Objects: []api.Object{{Key: key(0, 3)}, {Key: key(3, 3)}}[:objects], Index: []int{2, 3, 4}[:pagesOf(len(textsOf(texts...)))]}, "as many texts")
			} else {
				mustNotOpen(t, d, api.ErrCorrupt, "another number of texts")
			}
		}
	}
	l, index := bigObjects(maxObjects+1, 3)
	mustNotOpen(t, stood(1000, 3, l, index...).Dev, api.ErrCorrupt, "257 objects")
	l = nil
	for i := range 341 {
		l = append(l, api.Object{Key: key(i, 3)})
	}
	mustNotOpen(t, stood(1000, 3, l, riseFrom(2, pagesOf(len(indexOf(l))))...).Dev, api.ErrCorrupt, "341 objects")
}

// TestOpenOfAnIndexThatIsNone: what is written as one, in pages as they should
// be.
func TestOpenOfAnIndexThatIsNone(t *testing.T) {
	whole := textsOf("a", numbersOf(0), "")
	mustOpen(t, layer(9, 1, whole, 2), api.Store{Uber: api.Uber{Txg: 3, First: 2, Objects: 1}, Objects: []api.Object{{Key: "a"}}, Index: []int{2}}, "an index by hand")
	for n := 1; n < len(whole); n++ {
		mustNotOpen(t, layer(9, 1, whole[:n], 2), api.ErrCorrupt, "an index that ends too early")
	}
	for o := range 256 {
		mustNotOpen(t, layer(9, 1, append(bytes.Clone(whole), byte(o)), 2), api.ErrCorrupt, "an index with an octet behind it")
	}
	for i := range 2 {
		b := bytes.Clone(whole)
		b[i] ^= 0xff
		mustNotOpen(t, layer(9, 1, b, 2), api.ErrCorrupt, "an index of another count")
	}
	mustNotOpen(t, layer(14, 1, text(1, 500), riseFrom(2, 10)...), api.ErrCorrupt, "octets that are no index")
	mustNotOpen(t, layer(9, 1, make([]byte, 100), 2, 3), api.ErrCorrupt, "an index of zeros")
}

// TestOpenOfObjectsThatMayNotBe: an index of texts by hand, with one of them
// wrong; the object's page stands in 5, pages of no one in 6 to 8.
func TestOpenOfObjectsThatMayNotBe(t *testing.T) {
	data := text(1, 52)
	layered := func(texts ...string) api.Device {
		d := layer(12, len(texts)/3, textsOf(texts...), 2, 3, 4, 9, 10, 11)
		d.Sectors[5] = pageOf(data, 0)
		for at := 6; at < 9; at++ {
			d.Sectors[at] = pageOf(data, 0)
		}
		return d
	}
	one := api.Object{Key: "b", Data: data, At: []int{5}}
	mustOpen(t, layered("b", numbersOf(52), numbersOf(5)), api.Store{Uber: api.Uber{Txg: 3, First: 2, Objects: 1}, Objects: []api.Object{one}, Index: []int{2}}, "one object by hand")
	two := []api.Object{one, {Key: "c", Data: slices.Concat(data, data), At: []int{8, 6}}}
	mustOpen(t, layered("b", numbersOf(52), numbersOf(5), "c", numbersOf(104), numbersOf(8, 6)), api.Store{Uber: api.Uber{Txg: 3, First: 2, Objects: 2}, Objects: two, Index: []int{2, 3}}, "two objects by hand")
	for what, texts := range map[string][]string{
		"an empty key":                     {"", numbersOf(52), numbersOf(5)},
		"a key of 97 octets":               {strings.Repeat("k", 97), numbersOf(52), numbersOf(5)},
		"keys that are the same":           {"b", numbersOf(52), numbersOf(5), "b", numbersOf(52), numbersOf(6)},
		"keys that fall":                   {"b", numbersOf(52), numbersOf(5), "a", numbersOf(52), numbersOf(6)},
		"a length of no octets":            {"b", "", numbersOf(5)},
		"a length of no octets, and no At": {"b", "", ""},
		"a length of 7 octets":             {"b", numbersOf(52)[1:], numbersOf(5)},
		"a length of 9 octets":             {"b", "\x00" + numbersOf(52), numbersOf(5)},
		"a length that is one less":        {"b", numbersOf(51), numbersOf(5)},
		"a length that is one more":        {"b", numbersOf(53), numbersOf(5)},
		"a length that is one more page":   {"b", numbersOf(53), numbersOf(5, 6)},
		"a length of 1":                    {"b", numbersOf(1), numbersOf(5)},
		"a length of 0":                    {"b", numbersOf(0), numbersOf(5)},
		"a length below 0":                 {"b", numbersOf(-1), ""},
		"the lowest length":                {"b", numbersOf(math.MinInt), ""},
		"a length of 2^62":                 {"b", numbersOf(1 << 62), numbersOf(5)},
		"a length of 2^62 - 1":             {"b", numbersOf(1<<62 - 1), numbersOf(5)},
		"the highest length":               {"b", numbersOf(math.MaxInt), numbersOf(5)},
		"a length of 2^32 + 52":            {"b", numbersOf(1<<32 + 52), numbersOf(5)},
		"no At":                            {"b", numbersOf(52), ""},
		"an At of one too many":            {"b", numbersOf(52), numbersOf(5, 6)},
		"an At of one too few":             {"b", numbersOf(104), numbersOf(5)},
		"an At of one without Data":        {"b", numbersOf(0), numbersOf(6)},
		"an At of 7 octets":                {"b", numbersOf(52), numbersOf(5)[1:]},
		"an At of 9 octets":                {"b", numbersOf(52), numbersOf(5) + "\x00"},
		"an At of 1 octet":                 {"b", numbersOf(52), "\x05"},
		"an At of 12 octets":               {"b", numbersOf(104), numbersOf(5) + "\x00\x00\x00\x06"},
		"an At in sector 0":                {"b", numbersOf(52), numbersOf(0)},
		"an At in sector 1":                {"b", numbersOf(52), numbersOf(1)},
		"an At in sector -1":               {"b", numbersOf(52), numbersOf(-1)},
		"an At behind the device":          {"b", numbersOf(52), numbersOf(12)},
		"an At in 2^13":                    {"b", numbersOf(52), numbersOf(maxSectors)},
		"an At in 2^32 + 5":                {"b", numbersOf(52), numbersOf(1<<32 + 5)},
		"an At in the highest number":      {"b", numbersOf(52), numbersOf(math.MaxInt)},
		"an At in 2^62":                    {"b", numbersOf(52), numbersOf(1 << 62)},
		"an At twice the same":             {"b", numbersOf(104), numbersOf(5, 5)},
		"two At's of one sector":           {"a", numbersOf(52), numbersOf(5), "b", numbersOf(52), numbersOf(5)},
		"an At where the index is":         {"b", numbersOf(52), numbersOf(2)},
		"an At where nothing stands":       {"b", numbersOf(52), numbersOf(10)},
		"texts in another order":           {"b", numbersOf(5), numbersOf(52)},
		"the second one's At wrong":        {"b", numbersOf(52), numbersOf(5), "c", numbersOf(52), numbersOf(1)},
		"the second one's length wrong":    {"b", numbersOf(52), numbersOf(5), "c", numbersOf(50), numbersOf(6)},
		"an index where its page is, long": {strings.Repeat("k", 90), numbersOf(52), numbersOf(3)},
	} {
		mustNotOpen(t, layered(texts...), api.ErrCorrupt, what)
	}
	o := tooLong()
	mustNotOpen(t, o.Dev, api.ErrCorrupt, "an object of MaxField octets and one")
}

// TestOpenOfObjectsPages: each page of an object that is a page, but not the
// one that should stand there.
func TestOpenOfObjectsPages(t *testing.T) {
	s := stood(12, 5, []api.Object{{Key: "k", Data: text(1, 130), At: []int{3, 8, 5}}, {Key: "l", Data: text(2, 1), At: []int{9}}}, 4, 7)
	mustOpen(t, s.Dev, s, "an object of 3 pages")
	for i, part := range cut(s.Objects[0].Data) {
		at := s.Objects[0].At[i]
		for _, next := range []int{1, 2, 3, 4, 5, 6, 7, 8, 9, 11, 12, maxSectors - 1} {
			mustNotOpen(t, put(s.Dev, at, pageOf(part, next)), api.ErrCorrupt, "an object whose page has a next")
		}
		for size := range payload + 1 {
			if size != len(part) {
				mustNotOpen(t, put(s.Dev, at, pageOf(text(3, size), 0)), api.ErrCorrupt, "an object whose page has other octets")
			}
		}
		other := but(s, func(s *api.Store) {
			copy(s.Objects[0].Data[i*payload:], text(9, len(part)))
			s.Dev.Sectors[at] = pageOf(text(9, len(part)), 0)
		})
		mustOpen(t, other.Dev, other, "an object with another page of as many octets")
	}
}

// TestOpenOfRandomPages: stores in which a page is another page, of any
// octets and any next; opened or not, it ends, and what is opened may be.
func TestOpenOfRandomPages(t *testing.T) {
	r := rand.New(rand.NewSource(104))
	for range 4000 {
		s := good()
		for range 1 + r.Intn(2) {
			at := r.Intn(len(s.Dev.Sectors))
			b := make([]byte, r.Intn(payload+1))
			r.Read(b)
			if r.Intn(2) == 0 {
				b = bytes.Clone(s.Dev.Sectors[r.Intn(20)][4:56])
			}
			s.Dev.Sectors[at] = pageOf(b, r.Intn(22))
		}
		o, err := store.Open(s.Dev)
		if err == api.OK && (store.Check(o) != api.OK || !sameKept(o, opened(o))) || err != api.OK && !isZero(o) {
			t.Fatalf("opened: %v, %d", o.Uber, err)
		}
	}
}

// opened: the store as it is read from the device by what it says of itself.
func opened(s api.Store) api.Store {
	l := twinObjects(s.Objects)
	for i, o := range l {
		l[i].Data = nil
		for _, at := range o.At {
			b := s.Dev.Sectors[at]
			l[i].Data = append(l[i].Data, b[4:4+int(b[1])]...)
		}
	}
	want := stood(len(s.Dev.Sectors), s.Uber.Txg, l, s.Index...)
	for _, at := range s.Index {
		if !bytes.Equal(want.Dev.Sectors[at], s.Dev.Sectors[at]) {
			return api.Store{}
		}
	}
	return want
}
