package uber_test

import (
	"bytes"
	"encoding/binary"
	"encoding/hex"
	"math"
	"math/rand"
	"testing"

	"godown/api"
	"godown/device"
	"godown/uber"
)

// The limits as the document writes them.
const (
	mostTxg     = 1 << 40
	sectors     = 1 << 13
	mostObjects = 1 << 10
)

// wantMayBe: what the document says of an uberblock, told case by case.
func wantMayBe(u api.Uber) bool {
	if u.Txg <= 0 || u.Txg > mostTxg {
		return false
	}
	switch {
	case u.First == 0:
		return u.Objects == 0
	case 2 <= u.First && u.First <= sectors-1:
		return 1 <= u.Objects && u.Objects <= mostObjects
	}
	return false
}

// headOf: the octets ahead of the sum, of fields of any bits.
func headOf(txg uint64, first, objects uint32) []byte {
	b := []byte("gdn1")
	b = binary.BigEndian.AppendUint64(b, txg)
	b = binary.BigEndian.AppendUint32(b, first)
	b = binary.BigEndian.AppendUint32(b, objects)
	return append(b, make([]byte, 12)...)
}

// summed: the octets, and behind them their sum, told by how often each word
// counts: the word with k behind it, itself counted, counts once in A, k times
// in B, k(k+1)/2 times in C and k(k+1)(k+2)/6 times in D.
func summed(head []byte) []byte {
	var sum [4]uint64
	words := uint64(len(head) / 4)
	for i := range words {
		w := uint64(binary.BigEndian.Uint32(head[4*i:]))
		k := words - i
		for part, times := range []uint64{1, k, k * (k + 1) / 2, k * (k + 1) * (k + 2) / 6} {
			sum[part] += times * w
		}
	}
	out := bytes.Clone(head)
	for _, part := range sum {
		out = binary.BigEndian.AppendUint64(out, part)
	}
	return out
}

// wantSector: the sector of an uberblock, whose fields fit.
func wantSector(u api.Uber) []byte {
	return summed(headOf(uint64(u.Txg), uint32(u.First), uint32(u.Objects)))
}

// numbers: the edges of all fields, numbers below 0 and very large ones, and
// such as would be edges if only their lowest octets counted.
func numbers() []int {
	return []int{
		math.MinInt, math.MinInt + 2, -1 << 40, -1<<32 + 2, -1 << 32, -sectors, -2, -1, 0, 1, 2, 3, 255, 256,
		mostObjects - 1, mostObjects, mostObjects + 1, sectors - 2, sectors - 1, sectors, sectors + 1,
		1<<16 + 2, 1<<31 - 1, 1 << 31, 1<<32 - 1, 1 << 32, 1<<32 + 1, 1<<32 + 2,
		mostTxg - 1, mostTxg, mostTxg + 1, 1<<40 + 2, 1<<62 - 1, 1 << 62, math.MaxInt - 1, math.MaxInt,
	}
}

// everyUber: all uberblocks with those numbers.
func everyUber() []api.Uber {
	var out []api.Uber
	for _, txg := range numbers() {
		for _, first := range numbers() {
			for _, objects := range numbers() {
				out = append(out, api.Uber{Txg: txg, First: first, Objects: objects})
			}
		}
	}
	return out
}

// goodUbers: those of everyUber that may be, and some at random.
func goodUbers() []api.Uber {
	var out []api.Uber
	for _, u := range everyUber() {
		if wantMayBe(u) {
			out = append(out, u)
		}
	}
	r := rand.New(rand.NewSource(81))
	for range 300 {
		txg := 1 + r.Intn(mostTxg)
		out = append(out, api.Uber{Txg: txg, First: 2 + r.Intn(sectors-2), Objects: 1 + r.Intn(mostObjects)})
		out = append(out, api.Uber{Txg: txg})
	}
	return out
}

// fewUbers: uberblocks for tests that go through a sector octet by octet.
func fewUbers() []api.Uber {
	return []api.Uber{
		{Txg: 1}, {Txg: 2}, {Txg: mostTxg}, {Txg: 3, First: 2, Objects: 1},
		{Txg: mostTxg, First: sectors - 1, Objects: mostObjects},
		{Txg: 0x0102030405, First: 0x1234, Objects: 0x3ff},
	}
}

func mustCorrupt(t *testing.T, b []byte, what string) {
	t.Helper()
	if u, err := uber.Decode(b); err != api.ErrCorrupt || u != (api.Uber{}) {
		t.Errorf("Decode of %s (%x) = %v, %d, want ErrCorrupt alone", what, b, u, err)
	}
}

func mustDecode(t *testing.T, b []byte, want api.Uber) {
	t.Helper()
	if u, err := uber.Decode(b); err != api.OK || u != want {
		t.Errorf("Decode(%x) = %v, %d, want %v", b, u, err, want)
	}
}

func TestLimits(t *testing.T) {
	if api.MaxAmount != mostTxg || api.MaxSectors != sectors || api.MaxFields != mostObjects || api.Sector != 64 {
		t.Error("api's limits are not those of the document")
	}
}

// P8.1: Slot

func TestOfTheChapter(t *testing.T) {
	if s := uber.Slot(api.Uber{Txg: 3}); s != 1 {
		t.Errorf("Slot of Txg 3 = %d, want 1", s)
	}
}

func TestSlot(t *testing.T) {
	for _, c := range []struct{ txg, want int }{
		{0, 0}, {1, 1}, {2, 0}, {3, 1}, {4, 0}, {5, 1},
		{mostTxg - 1, 1}, {mostTxg, 0}, {mostTxg + 1, 1},
		{1 << 32, 0}, {1<<32 + 1, 1}, {math.MaxInt, 1}, {math.MaxInt - 1, 0},
		{-1, 1}, {-2, 0}, {-3, 1}, {-4, 0}, {-mostTxg, 0}, {-mostTxg - 1, 1},
		{math.MinInt, 0}, {math.MinInt + 1, 1},
	} {
		for _, u := range []api.Uber{
			{Txg: c.txg}, {Txg: c.txg, First: 2, Objects: 1}, {Txg: c.txg, First: 3, Objects: 2},
			{Txg: c.txg, First: -1, Objects: math.MaxInt}, {Txg: c.txg, First: math.MinInt, Objects: -1},
		} {
			if s := uber.Slot(u); s != c.want {
				t.Errorf("Slot(%v) = %d, want %d", u, s, c.want)
			}
		}
	}
}

// TestSlotsTakeTurns: an uberblock never stands where the one ahead of it does.
func TestSlotsTakeTurns(t *testing.T) {
	for _, u := range goodUbers() {
		next := api.Uber{Txg: u.Txg + 1, First: u.First, Objects: u.Objects}
		if a, b := uber.Slot(u), uber.Slot(next); a+b != 1 || a*b != 0 {
			t.Errorf("Slot(%v) = %d, Slot(%v) = %d, want 0 and 1", u, a, next, b)
		}
	}
}

// P8.1: Check and Encode

func TestEdgesByHand(t *testing.T) {
	for _, c := range []struct {
		u    api.Uber
		want api.Errno
	}{
		{api.Uber{}, api.ErrRange},
		{api.Uber{Txg: -1}, api.ErrRange},
		{api.Uber{Txg: 0, First: 2, Objects: 1}, api.ErrRange},
		{api.Uber{Txg: 1}, api.OK},
		{api.Uber{Txg: 1 << 40}, api.OK},
		{api.Uber{Txg: 1<<40 + 1}, api.ErrRange},
		{api.Uber{Txg: 1<<40 + 1, First: 2, Objects: 1}, api.ErrRange},
		{api.Uber{Txg: 1, First: -1, Objects: 1}, api.ErrRange},
		{api.Uber{Txg: 1, First: -1}, api.ErrRange},
		{api.Uber{Txg: 1, First: 1, Objects: 1}, api.ErrRange},
		{api.Uber{Txg: 1, First: 1}, api.ErrRange},
		{api.Uber{Txg: 1, First: 2, Objects: 1}, api.OK},
		{api.Uber{Txg: 1, First: 1<<13 - 1, Objects: 1}, api.OK},
		{api.Uber{Txg: 1, First: 1 << 13, Objects: 1}, api.ErrRange},
		{api.Uber{Txg: 1, First: 2, Objects: -1}, api.ErrRange},
		{api.Uber{Txg: 1, Objects: -1}, api.ErrRange},
		{api.Uber{Txg: 1, First: 2, Objects: 0}, api.ErrRange},
		{api.Uber{Txg: 1, First: 1<<13 - 1, Objects: 0}, api.ErrRange},
		{api.Uber{Txg: 1, First: 0, Objects: 1}, api.ErrRange},
		{api.Uber{Txg: 1, First: 0, Objects: 1 << 10}, api.ErrRange},
		{api.Uber{Txg: 1, First: 2, Objects: 1 << 10}, api.OK},
		{api.Uber{Txg: 1, First: 2, Objects: 1<<10 + 1}, api.ErrRange},
		{api.Uber{Txg: 1, First: 0, Objects: 1<<10 + 1}, api.ErrRange},
		{api.Uber{Txg: 1 << 40, First: 1<<13 - 1, Objects: 1 << 10}, api.OK},
	} {
		if err := uber.Check(c.u); err != c.want {
			t.Errorf("Check(%v) = %d, want %d", c.u, err, c.want)
		}
		b, err := uber.Encode(c.u)
		if err != c.want || (len(b) == 64) != (c.want == api.OK) || err != api.OK && len(b) != 0 {
			t.Errorf("Encode(%v) = %d octets, %d, want error %d", c.u, len(b), err, c.want)
		}
	}
}

// TestEveryUber: each field at each edge beside each other one.
func TestEveryUber(t *testing.T) {
	for _, u := range everyUber() {
		want, sector := api.ErrRange, []byte(nil)
		if wantMayBe(u) {
			want, sector = api.OK, wantSector(u)
		}
		if err := uber.Check(u); err != want {
			t.Fatalf("Check(%v) = %d, want %d", u, err, want)
		}
		if b, err := uber.Encode(u); err != want || !bytes.Equal(b, sector) {
			t.Fatalf("Encode(%v) = %x, %d, want %x, %d", u, b, err, sector, want)
		}
	}
}

// TestSectorsByHand: octets that were worked out aside of this program.
func TestSectorsByHand(t *testing.T) {
	for _, c := range []struct {
		u    api.Uber
		want string
	}{
		{api.Uber{Txg: 1}, "67646e31" + "0000000000000001" + "00000000" + "00000000" + "000000000000000000000000" +
			"0000000067646e32" + "000000033b23718e" + "0000000e8a1f7ef9" + "000000307713a730"},
		{api.Uber{Txg: 3, First: 2, Objects: 1}, "67646e31" + "0000000000000003" + "00000002" + "00000001" + "000000000000000000000000" +
			"0000000067646e37" + "000000033b2371a8" + "0000000e8a1f7f4b" + "000000307713a7fa"},
		{api.Uber{Txg: 1 << 40, First: 8191, Objects: 1024}, "67646e31" + "0000010000000000" + "00001fff" + "00000400" + "000000000000000000000000" +
			"0000000067649330" + "000000033b242883" + "0000000e8a21a2d5" + "000000307718aad5"},
		{api.Uber{Txg: 0x0102030405, First: 0x1234, Objects: 0x3ff}, "67646e31" + "0000000102030405" + "00001234" + "000003ff" + "000000000000000000000000" +
			"000000006967886a" + "000000034735f4ad" + "0000000eb4600c6b" + "00000030e7bf556c"},
	} {
		if b, err := uber.Encode(c.u); err != api.OK || hex.EncodeToString(b) != c.want {
			t.Errorf("Encode(%v) = %x, %d, want %s", c.u, b, err, c.want)
		}
		sector, err := hex.DecodeString(c.want)
		if err != nil {
			t.Fatal(err)
		}
		mustDecode(t, sector, c.u)
	}
}

func TestEncodeOfGoodUbers(t *testing.T) {
	for _, u := range goodUbers() {
		if b, err := uber.Encode(u); err != api.OK || !bytes.Equal(b, wantSector(u)) {
			t.Fatalf("Encode(%v) = %x, %d, want %x", u, b, err, wantSector(u))
		}
	}
}

// P8.1: Decode

func TestDecodeOfGoodSectors(t *testing.T) {
	for _, u := range goodUbers() {
		mustDecode(t, wantSector(u), u)
	}
}

// TestDecodeOfOtherLengths: a sector's front, and a sector with octets behind
// it, are none, even where its memory goes on as it should.
func TestDecodeOfOtherLengths(t *testing.T) {
	mustCorrupt(t, nil, "nothing")
	mustCorrupt(t, []byte{}, "no octets")
	for _, u := range fewUbers() {
		sector := wantSector(u)
		for size := range sector {
			mustCorrupt(t, sector[:size], "a sector's front")
			mustCorrupt(t, bytes.Clone(sector[:size]), "a sector's front")
			mustCorrupt(t, sector[64-size:], "a sector's end")
		}
		for _, more := range [][]byte{{0}, {0xff}, make([]byte, 64), sector} {
			mustCorrupt(t, append(bytes.Clone(sector), more...), "a sector and more")
			mustCorrupt(t, append(bytes.Clone(more), sector...), "a sector behind more")
		}
		mustDecode(t, append(bytes.Clone(sector), 1, 2, 3)[:64], u)
	}
	for _, size := range []int{1, 4, 20, 31, 32, 33, 63, 64, 65, 128, 1 << 16} {
		mustCorrupt(t, make([]byte, size), "zeros")
		mustCorrupt(t, bytes.Repeat([]byte{0xff}, size), "octets of 255")
	}
}

// TestDecodeOfEachOctetTurned: to each other octet, at each place.
func TestDecodeOfEachOctetTurned(t *testing.T) {
	for _, u := range fewUbers() {
		sector := wantSector(u)
		for place := range sector {
			for turn := 1; turn < 256; turn++ {
				sector[place] ^= byte(turn)
				mustCorrupt(t, sector, "a sector with an octet turned")
				sector[place] ^= byte(turn)
			}
		}
		mustDecode(t, sector, u)
	}
}

// TestDecodeOfHeadsThatAreNone: with another mark, or octets where zeros
// stand, though the sum is right.
func TestDecodeOfHeadsThatAreNone(t *testing.T) {
	for _, u := range fewUbers() {
		head := wantSector(u)[:32]
		for _, mark := range []string{"gdn0", "gdn2", "Gdn1", "GDN1", "gdnl", "1ndg", "gdn ", "\x00\x00\x00\x00", "\xff\xff\xff\xff", "gnd1"} {
			mustCorrupt(t, summed(append([]byte(mark), head[4:]...)), "a sector with another mark")
		}
		for _, place := range []int{0, 1, 2, 3, 20, 21, 22, 23, 24, 25, 26, 27, 28, 29, 30, 31} {
			for turn := 1; turn < 256; turn++ {
				head[place] ^= byte(turn)
				mustCorrupt(t, summed(head), "a sector with a head that is none")
				head[place] ^= byte(turn)
			}
		}
		mustDecode(t, summed(head), u)
	}
}

// TestDecodeOfFieldsThatMayNotBe: though their sum is right; very large ones,
// too, which as an int would be below 0, or would wrap round to one that may
// be.
func TestDecodeOfFieldsThatMayNotBe(t *testing.T) {
	txgs := []uint64{
		0, 1, 2, mostTxg - 1, mostTxg, mostTxg + 1, mostTxg + 2, 1 << 41, 1<<48 + 1, 1<<62 - 1, 1 << 62, 1<<62 + 1,
		1<<63 - 1, 1 << 63, 1<<63 + 1, math.MaxUint64 - 1, math.MaxUint64,
	}
	places := []uint32{
		0, 1, 2, 3, mostObjects - 1, mostObjects, mostObjects + 1, sectors - 1, sectors, sectors + 1, 1<<16 + 2,
		1 << 24, 1<<24 + 2, 1<<31 - 1, 1 << 31, 1<<31 + 2, math.MaxUint32 - 1, math.MaxUint32,
	}
	for _, txg := range txgs {
		for _, first := range places {
			for _, objects := range places {
				b := summed(headOf(txg, first, objects))
				u := api.Uber{Txg: int(txg), First: int(first), Objects: int(objects)}
				if wantMayBe(u) {
					mustDecode(t, b, u)
				} else {
					mustCorrupt(t, b, "a sector with fields that may not be")
				}
			}
		}
	}
}

// TestDecodeOfSumsThatAreNone: of parts in another order, of fewer octets or
// more, and of another uberblock.
func TestDecodeOfSumsThatAreNone(t *testing.T) {
	for _, u := range fewUbers() {
		sector := wantSector(u)
		head, sum := sector[:32], sector[32:]
		for i := range 4 {
			for j := range i {
				other := bytes.Clone(sum)
				copy(other[8*i:], sum[8*j:8*j+8])
				copy(other[8*j:], sum[8*i:8*i+8])
				mustCorrupt(t, append(bytes.Clone(head), other...), "a sector with parts of its sum swapped")
			}
			other := bytes.Clone(sum)
			copy(other[8*i:], make([]byte, 8))
			mustCorrupt(t, append(bytes.Clone(head), other...), "a sector with a part of its sum zero")
		}
		for _, of := range [][]byte{nil, head[:4], head[:20], head[:24], head[4:], head[4:20], sector} {
			bare := summed(of)
			mustCorrupt(t, append(bytes.Clone(head), bare[len(of):]...), "a sector with the sum of other octets")
		}
		mustCorrupt(t, append(bytes.Clone(head), head...), "a head twice")
		mustCorrupt(t, append(bytes.Clone(sum), head...), "a sector with its sum ahead")
		for _, v := range fewUbers() {
			if u != v {
				mustCorrupt(t, append(bytes.Clone(head), wantSector(v)[32:]...), "a sector with another one's sum")
			}
		}
	}
}

func TestDecodeOfRandomOctets(t *testing.T) {
	r := rand.New(rand.NewSource(82))
	for range 2000 {
		b := make([]byte, 64)
		r.Read(b)
		mustCorrupt(t, b, "random octets")
		copy(b, "gdn1")
		mustCorrupt(t, b, "random octets behind the mark")
		mustCorrupt(t, summed(b[:32]), "random octets with their sum")
	}
}

// P8.1: Newest

// candidate: a sector, or what is none, and which Txg it has (of none 0).
type candidate struct {
	b []byte
	u api.Uber
}

func candidates() []candidate {
	var out []candidate
	for _, u := range []api.Uber{
		{Txg: 1}, {Txg: 1, First: 2, Objects: 1}, {Txg: 1, First: 3, Objects: 1}, {Txg: 1, First: 2, Objects: 2},
		{Txg: 2}, {Txg: 2, First: 5, Objects: 7}, {Txg: 255}, {Txg: 256}, {Txg: 1<<32 - 1}, {Txg: 1 << 32}, {Txg: 1<<32 + 1},
		{Txg: mostTxg - 1}, {Txg: mostTxg}, {Txg: mostTxg, First: sectors - 1, Objects: mostObjects},
	} {
		out = append(out, candidate{wantSector(u), u})
	}
	sector := wantSector(api.Uber{Txg: mostTxg, First: 2, Objects: 1})
	turned := bytes.Clone(sector)
	turned[11] ^= 1
	for _, b := range [][]byte{
		nil, {}, {1}, make([]byte, 64), sector[:63], append(bytes.Clone(sector), 0), turned,
		summed(headOf(0, 0, 0)), summed(headOf(mostTxg+1, 0, 0)), summed(headOf(math.MaxUint64, 0, 0)),
		summed(headOf(mostTxg, 1, 1)), summed(headOf(mostTxg, 2, 0)), summed(headOf(mostTxg, 0, 1)),
	} {
		out = append(out, candidate{b: b})
	}
	return out
}

// TestNewestOfEachPair: of two that are none, of one, of two of one Txg, and
// of a newer one on either side.
func TestNewestOfEachPair(t *testing.T) {
	for _, a := range candidates() {
		for _, b := range candidates() {
			want, wantPlace, wantErr := a.u, 0, api.OK
			if b.u.Txg > a.u.Txg {
				want, wantPlace = b.u, 1
			}
			if want.Txg == 0 {
				wantErr = api.ErrCorrupt
			}
			u, place, err := uber.Newest(a.b, b.b)
			if u != want || place != wantPlace || err != wantErr {
				t.Errorf("Newest(%x, %x) = %v, %d, %d, want %v, %d, %d", a.b, b.b, u, place, err, want, wantPlace, wantErr)
			}
		}
	}
}

// TestNewestByHand: told without the reference.
func TestNewestByHand(t *testing.T) {
	old, next := api.Uber{Txg: 9, First: 4, Objects: 2}, api.Uber{Txg: 10}
	same := api.Uber{Txg: 9, First: 100, Objects: 3}
	none := make([]byte, 64)
	for _, c := range []struct {
		name  string
		a, b  []byte
		u     api.Uber
		place int
		err   api.Errno
	}{
		{"two that are none", none, nil, api.Uber{}, 0, api.ErrCorrupt},
		{"none and one", none, wantSector(old), old, 1, api.OK},
		{"one and none", wantSector(old), none, old, 0, api.OK},
		{"the older one and the newer one", wantSector(old), wantSector(next), next, 1, api.OK},
		{"the newer one and the older one", wantSector(next), wantSector(old), next, 0, api.OK},
		{"two of one Txg", wantSector(old), wantSector(same), old, 0, api.OK},
		{"two of one Txg, the other way round", wantSector(same), wantSector(old), same, 0, api.OK},
		{"one twice", wantSector(old), wantSector(old), old, 0, api.OK},
	} {
		if u, place, err := uber.Newest(c.a, c.b); u != c.u || place != c.place || err != c.err {
			t.Errorf("Newest of %s = %v, %d, %d, want %v, %d, %d", c.name, u, place, err, c.u, c.place, c.err)
		}
	}
}

func TestNewestOfRandomPairs(t *testing.T) {
	r := rand.New(rand.NewSource(83))
	good := goodUbers()
	for range 2000 {
		a, b := good[r.Intn(len(good))], good[r.Intn(len(good))]
		want, wantPlace := a, 0
		if b.Txg > a.Txg {
			want, wantPlace = b, 1
		}
		if u, place, err := uber.Newest(wantSector(a), wantSector(b)); u != want || place != wantPlace || err != api.OK {
			t.Fatalf("Newest of %v and %v = %v, %d, %d", a, b, u, place, err)
		}
	}
}

// TestNewestOnADevice: each uberblock in its slot, the one written last
// counts, and, if what was written of it is lost, the one ahead of it.
func TestNewestOnADevice(t *testing.T) {
	d, err := device.New(2)
	if err != api.OK {
		t.Fatal(err)
	}
	var last api.Uber
	for txg := mostTxg - 7; txg <= mostTxg; txg++ {
		u := api.Uber{Txg: txg, First: 2 + txg%5, Objects: 1 + txg%3}
		b, err := uber.Encode(u)
		if err != api.OK {
			t.Fatalf("Encode(%v) = %d", u, err)
		}
		if d, err = device.Do(d, api.Act{At: uber.Slot(u), Data: b}); err != api.OK {
			t.Fatalf("the sector of %v is not written: %d", u, err)
		}
		mustBeNewest(t, d, u)
		if lost, err := device.Crash(d, nil); err != api.OK {
			t.Fatal(err)
		} else if last != (api.Uber{}) {
			mustBeNewest(t, lost, last)
		}
		if d, err = device.Do(d, api.Act{Flush: true}); err != api.OK {
			t.Fatal(err)
		}
		last = u
	}
}

func mustBeNewest(t *testing.T, d api.Device, want api.Uber) {
	t.Helper()
	a, _ := device.Read(d, 0)
	b, _ := device.Read(d, 1)
	if u, place, err := uber.Newest(a, b); err != api.OK || u != want || place != uber.Slot(want) {
		t.Errorf("Newest = %v, %d, %d, want %v, %d", u, place, err, want, uber.Slot(want))
	}
}

// P8.2

func TestUberblocksComeBack(t *testing.T) {
	for _, u := range goodUbers() {
		b, err := uber.Encode(u)
		if err != api.OK || len(b) != api.Sector {
			t.Fatalf("Encode(%v) = %d octets, %d", u, len(b), err)
		}
		mustDecode(t, b, u)
		none := make([]byte, 64)
		if v, place, err := uber.Newest(none, b); v != u || place != 1 || err != api.OK {
			t.Fatalf("Newest of none and %v = %v, %d, %d", u, v, place, err)
		}
	}
}

func TestSectorsComeBack(t *testing.T) {
	for _, u := range goodUbers() {
		sector := wantSector(u)
		back, err := uber.Decode(sector)
		if err != api.OK {
			t.Fatalf("Decode of the sector of %v = %d", u, err)
		}
		if b, err := uber.Encode(back); err != api.OK || !bytes.Equal(b, sector) {
			t.Fatalf("the sector of %v came back as %x, %d", u, b, err)
		}
	}
}

// TestEachUberblockHasItsOwnSector: no two have one.
func TestEachUberblockHasItsOwnSector(t *testing.T) {
	met := map[string]api.Uber{}
	for _, u := range goodUbers() {
		b, _ := uber.Encode(u)
		if v, ok := met[string(b)]; ok && v != u {
			t.Fatalf("%v and %v have one sector", u, v)
		}
		met[string(b)] = u
	}
}

// P8.3, and P1 to P3 of DOC.md

// room: a copy of octets with room behind it, filled, so that a write behind
// its end shows.
func room(b []byte) (list, whole []byte) {
	whole = append(bytes.Clone(b), bytes.Repeat([]byte{0xee}, 80)...)
	return whole[:len(b)], whole
}

// fill overwrites octets, with the room behind them.
func fill(b []byte, o byte) {
	b = b[:cap(b)]
	for i := range b {
		b[i] = o
	}
}

// texts: sectors, and octets that are none.
func texts() [][]byte {
	var out [][]byte
	for _, c := range candidates() {
		out = append(out, c.b)
	}
	return out
}

func TestWhatIsHandedInStays(t *testing.T) {
	for _, text := range texts() {
		for _, other := range texts() {
			a, wholeA := room(text)
			b, wholeB := room(other)
			aheadA, aheadB := bytes.Clone(wholeA), bytes.Clone(wholeB)
			uber.Decode(a)
			uber.Newest(a, b)
			uber.Newest(a, a)
			if !bytes.Equal(wholeA, aheadA) || !bytes.Equal(wholeB, aheadB) {
				t.Fatalf("%x and %x were changed", text, other)
			}
		}
	}
}

// TestAnswersOutliveWhatWasHandedIn: what is written over it later is not to
// be seen in them.
func TestAnswersOutliveWhatWasHandedIn(t *testing.T) {
	for _, u := range fewUbers() {
		a, wholeA := room(wantSector(u))
		decoded, err := uber.Decode(a)
		newest, place, newestErr := uber.Newest(a, a)
		fill(wholeA, 'x')
		if decoded != u || err != api.OK || newest != u || place != 0 || newestErr != api.OK {
			t.Errorf("answers of %v share memory with its sector", u)
		}
	}
}

// TestAnswersShareNothingWithEachOther: room behind an answer is its own too.
func TestAnswersShareNothingWithEachOther(t *testing.T) {
	for _, u := range fewUbers() {
		for _, v := range fewUbers() {
			one, _ := uber.Encode(u)
			two, _ := uber.Encode(v)
			fill(one, 'x')
			if !bytes.Equal(two, wantSector(v)) {
				t.Errorf("the sectors of %v and %v share memory", u, v)
			}
			if three, _ := uber.Encode(v); !bytes.Equal(three, wantSector(v)) {
				t.Errorf("Encode(%v) hands out what it keeps", v)
			}
			mustDecode(t, wantSector(u), u)
		}
	}
}

// TestNothingIsKept: what was asked ahead of a call is not to be seen in it.
func TestNothingIsKept(t *testing.T) {
	good := goodUbers()
	for i := range good {
		u, v := good[i], good[len(good)-1-i]
		uber.Encode(v)
		uber.Newest(wantSector(v), wantSector(u))
		uber.Decode(make([]byte, 64))
		uber.Check(api.Uber{Txg: -1})
		if b, err := uber.Encode(u); err != api.OK || !bytes.Equal(b, wantSector(u)) {
			t.Fatalf("Encode(%v) = %x, %d behind other calls", u, b, err)
		}
		mustDecode(t, wantSector(u), u)
		if w, place, err := uber.Newest(nil, wantSector(u)); w != u || place != 1 || err != api.OK {
			t.Fatalf("Newest of none and %v = %v, %d, %d behind other calls", u, w, place, err)
		}
	}
}

// TestNilAndEmptyAreOne: P1 of DOC.md.
func TestNilAndEmptyAreOne(t *testing.T) {
	sector := wantSector(api.Uber{Txg: 7, First: 2, Objects: 1})
	empty := sector[:0]
	a, errA := uber.Decode(nil)
	b, errB := uber.Decode(empty)
	if a != b || errA != errB {
		t.Error("Decode tells no list and an empty one apart")
	}
	for _, other := range [][]byte{nil, empty, sector, make([]byte, 64)} {
		a, placeA, errA := uber.Newest(nil, other)
		b, placeB, errB := uber.Newest(empty, other)
		if a != b || placeA != placeB || errA != errB {
			t.Errorf("Newest(.., %x) tells no list and an empty one apart", other)
		}
		a, placeA, errA = uber.Newest(other, nil)
		b, placeB, errB = uber.Newest(other, empty)
		if a != b || placeA != placeB || errA != errB {
			t.Errorf("Newest(%x, ..) tells no list and an empty one apart", other)
		}
	}
}
