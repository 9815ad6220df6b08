package pages_test

import (
	"bytes"
	"encoding/binary"
	"encoding/hex"
	"math"
	"math/rand"
	"slices"
	"testing"

	"godown/api"
	"godown/pages"
)

// The limits as the document writes them.
const (
	sector  = 64
	payload = 52
	sectors = 1 << 13
)

// summed: the octets, and behind them A of their sum: that of all words.
func summed(body []byte) []byte {
	var a uint64
	for at := 0; at < len(body); at += 4 {
		a += uint64(binary.BigEndian.Uint32(body[at:]))
	}
	return binary.BigEndian.AppendUint64(bytes.Clone(body), a)
}

// bodyOf: the 56 octets ahead of the sum, whatever the fields say.
func bodyOf(size, next uint16, rest []byte) []byte {
	body := binary.BigEndian.AppendUint16(nil, size)
	body = binary.BigEndian.AppendUint16(body, next)
	body = append(body, rest...)
	return append(body, make([]byte, 4+payload-len(body))...)
}

// wantPage: the page of octets that fit, and of a next that may be.
func wantPage(b []byte, next int) []byte {
	return summed(bodyOf(uint16(len(b)), uint16(next), b))
}

// text: that many octets, each unlike its neighbours and none zero.
func text(size int) []byte {
	b := make([]byte, size)
	for i := range b {
		b[i] = byte(1 + i%255)
	}
	return b
}

// fewTexts: octets that fit into a page, of the edge sizes and of several looks.
func fewTexts() [][]byte {
	var out [][]byte
	for _, size := range []int{0, 1, 2, 3, 4, 5, 26, 51, 52} {
		out = append(out, text(size), make([]byte, size), bytes.Repeat([]byte{0xff}, size))
	}
	return out
}

// edgeTexts: octets of sizes around each page's end, of several looks.
func edgeTexts() [][]byte {
	var out [][]byte
	for size := range 4*payload + 2 {
		out = append(out, text(size), make([]byte, size), bytes.Repeat([]byte{0xff}, size))
	}
	r := rand.New(rand.NewSource(91))
	for range 50 {
		b := make([]byte, r.Intn(3000))
		r.Read(b)
		out = append(out, b)
	}
	for _, size := range []int{100*payload - 1, 100 * payload, 100*payload + 1, 1<<16 - 1, 1 << 16, 1<<16 + 1} {
		out = append(out, text(size))
	}
	return out
}

// goodNexts: places that may be a next, with the edges.
func goodNexts() []int {
	return []int{0, 1, 2, 3, 255, 256, 257, 4095, 4096, sectors - 2, sectors - 1}
}

// badNexts: places that may be none: some would, if only their lowest octets
// counted.
func badNexts() []int {
	return []int{
		-1, -2, -sectors, -1 << 16, -1<<16 + 1, -1 << 32, math.MinInt, math.MinInt + 1,
		sectors, sectors + 1, 2 * sectors, 1<<16 - 1, 1 << 16, 1<<16 + 1, 1 << 31, 1 << 32, 1<<32 + 1, 1 << 40,
		math.MaxInt - 1, math.MaxInt,
	}
}

func mustCorrupt(t *testing.T, s []byte, what string) {
	t.Helper()
	if b, next, err := pages.Decode(s); err != api.ErrCorrupt || len(b) != 0 || next != 0 {
		t.Errorf("Decode of %s (%x) = %x, %d, %d, want ErrCorrupt alone", what, s, b, next, err)
	}
	if b, err := pages.Glue(s); err != api.ErrCorrupt || len(b) != 0 {
		t.Errorf("Glue of %s (%x) = %x, %d, want ErrCorrupt alone", what, s, b, err)
	}
}

func mustDecode(t *testing.T, s []byte, want []byte, wantNext int) {
	t.Helper()
	if b, next, err := pages.Decode(s); err != api.OK || next != wantNext || !bytes.Equal(b, want) {
		t.Errorf("Decode(%x) = %x, %d, %d, want %x, %d", s, b, next, err, want, wantNext)
	}
}

func mustGlue(t *testing.T, l [][]byte, want []byte, what string) {
	t.Helper()
	if b, err := pages.Glue(l...); err != api.OK || !bytes.Equal(b, want) {
		t.Errorf("Glue of %s = %x, %d, want %x", what, b, err, want)
	}
}

func mustNotGlue(t *testing.T, l [][]byte, what string) {
	t.Helper()
	if b, err := pages.Glue(l...); err != api.ErrCorrupt || len(b) != 0 {
		t.Errorf("Glue of %s = %x, %d, want ErrCorrupt alone", what, b, err)
	}
}

func TestLimits(t *testing.T) {
	if api.Sector != sector || api.Payload != payload || api.MaxSectors != sectors {
		t.Error("api's limits are not those of the document")
	}
}

// P9.1: Count

func TestOfTheChapter(t *testing.T) {
	if n := pages.Count(53); n != 2 {
		t.Errorf("Count of 53 = %d, want 2", n)
	}
}

func TestCount(t *testing.T) {
	for _, c := range []struct{ n, want int }{
		{0, 0}, {-1, 0}, {-51, 0}, {-52, 0}, {-53, 0}, {-104, 0}, {-1 << 40, 0}, {math.MinInt + 1, 0}, {math.MinInt, 0},
		{1, 1}, {2, 1}, {51, 1}, {52, 1}, {53, 2}, {103, 2}, {104, 2}, {105, 3}, {156, 3}, {157, 4},
		{1 << 16, 1261}, {5200, 100}, {5201, 101}, {52 << 40, 1 << 40}, {52<<40 + 1, 1<<40 + 1},
		// 2^63 is 177372539170284150 times 52, and 8.
		{math.MaxInt, 177372539170284151}, {math.MaxInt - 6, 177372539170284151}, {math.MaxInt - 7, 177372539170284150},
		{math.MaxInt - 58, 177372539170284150}, {math.MaxInt - 59, 177372539170284149},
	} {
		if n := pages.Count(c.n); n != c.want {
			t.Errorf("Count(%d) = %d, want %d", c.n, n, c.want)
		}
	}
}

// TestCountOneByOne: a page more at each octet that no page has room for.
func TestCountOneByOne(t *testing.T) {
	want, room := 0, 0
	for n := range 20000 {
		if n > room {
			want, room = want+1, room+payload
		}
		if c := pages.Count(n); c != want {
			t.Fatalf("Count(%d) = %d, want %d", n, c, want)
		}
		if c := pages.Count(-n); n > 0 && c != 0 {
			t.Fatalf("Count(%d) = %d, want 0", -n, c)
		}
	}
}

// TestCountIsLeast: so many pages have room for all octets, and one fewer have
// not; told without a division, and beyond what an int holds.
func TestCountIsLeast(t *testing.T) {
	r := rand.New(rand.NewSource(92))
	for range 5000 {
		n := 1 + r.Int()>>r.Intn(62)
		c := uint64(pages.Count(n))
		if c*payload < uint64(n) || (c-1)*payload >= uint64(n) {
			t.Fatalf("Count(%d) = %d", n, c)
		}
	}
}

// P9.1: Encode

// TestPagesByHand: octets that were worked out aside of this program.
func TestPagesByHand(t *testing.T) {
	for _, c := range []struct {
		b    string
		next int
		want string
	}{
		{"", 0, "0000" + "0000" + zeros(52) + "0000000000000000"},
		{"", 1, "0000" + "0001" + zeros(52) + "0000000000000001"},
		{"", 8191, "0000" + "1fff" + zeros(52) + "0000000000001fff"},
		{"ff", 0, "0001" + "0000" + "ff" + zeros(51) + "00000000ff010000"},
		{"01020304", 258, "0004" + "0102" + "01020304" + zeros(48) + "0000000001060406"},
		{"0102030405", 2, "0005" + "0002" + "0102030405" + zeros(47) + "0000000006070306"},
		{"ffffffffffffffff", 3, "0008" + "0003" + "ffffffffffffffff" + zeros(44) + "0000000200080001"},
	} {
		b, err := hex.DecodeString(c.b)
		if err != nil {
			t.Fatal(err)
		}
		if s, err := pages.Encode(b, c.next); err != api.OK || hex.EncodeToString(s) != c.want {
			t.Errorf("Encode(%s, %d) = %x, %d, want %s", c.b, c.next, s, err, c.want)
		}
		s, err := hex.DecodeString(c.want)
		if err != nil {
			t.Fatal(err)
		}
		mustDecode(t, s, b, c.next)
	}
}

// zeros: so many octets of zeros, in hexadecimal digits.
func zeros(n int) string {
	return hex.EncodeToString(make([]byte, n))
}

// TestEncodeOfAFullPageOf255: 13 words of 2^32 - 1 go beyond 32 bits, and are
// counted whole.
func TestEncodeOfAFullPageOf255(t *testing.T) {
	want := append([]byte{0, 52, 0, 0}, bytes.Repeat([]byte{0xff}, 52)...)
	want = append(want, 0, 0, 0, 0xd, 0, 0x33, 0xff, 0xf3) // 52 * 2^16 + 13 * (2^32 - 1)
	if s, err := pages.Encode(bytes.Repeat([]byte{0xff}, 52), 0); err != api.OK || !bytes.Equal(s, want) {
		t.Errorf("Encode of 52 octets of 255 = %x, %d, want %x", s, err, want)
	}
}

// TestEncodeOfEachSize: beside each next, and with both faults at once, of
// which the first argument's counts.
func TestEncodeOfEachSize(t *testing.T) {
	sizes := []int{53, 54, 55, 56, 60, 63, 64, 65, 104, 255, 256, 257, 308, 1 << 16, 1<<16 + 1}
	for size := range payload + 1 {
		sizes = append(sizes, size)
	}
	for _, size := range sizes {
		b := text(size)
		for _, next := range goodNexts() {
			want, wantErr := []byte(nil), api.ErrLong
			if size <= payload {
				want, wantErr = wantPage(b, next), api.OK
			}
			mustEncode(t, b, next, want, wantErr)
		}
		for _, next := range badNexts() {
			if size > payload {
				mustEncode(t, b, next, nil, api.ErrLong)
			} else {
				mustEncode(t, b, next, nil, api.ErrRange)
			}
		}
	}
}

func mustEncode(t *testing.T, b []byte, next int, want []byte, wantErr api.Errno) {
	t.Helper()
	if s, err := pages.Encode(b, next); err != wantErr || !bytes.Equal(s, want) {
		t.Errorf("Encode(%x, %d) = %x, %d, want %x, %d", b, next, s, err, want, wantErr)
	}
}

func TestEncodeEdgesByHand(t *testing.T) {
	for _, c := range []struct {
		size, next int
		want       api.Errno
	}{
		{0, 0, api.OK}, {1, 0, api.OK}, {51, 0, api.OK}, {52, 0, api.OK}, {53, 0, api.ErrLong},
		{0, -1, api.ErrRange}, {0, 1, api.OK}, {0, 1<<13 - 1, api.OK}, {0, 1 << 13, api.ErrRange},
		{52, -1, api.ErrRange}, {52, 1<<13 - 1, api.OK}, {52, 1 << 13, api.ErrRange},
		{52, math.MaxInt, api.ErrRange}, {52, math.MinInt, api.ErrRange},
		{53, -1, api.ErrLong}, {53, 1 << 13, api.ErrLong}, {53, math.MaxInt, api.ErrLong}, {53, math.MinInt, api.ErrLong},
	} {
		s, err := pages.Encode(text(c.size), c.next)
		if err != c.want || (len(s) == 64) != (c.want == api.OK) || err != api.OK && len(s) != 0 {
			t.Errorf("Encode of %d octets and %d = %d octets, %d, want error %d", c.size, c.next, len(s), err, c.want)
		}
	}
}

func TestEncodeOfEachNext(t *testing.T) {
	b := text(7)
	for next := -2; next < 1<<16+2; next++ {
		if next >= 0 && next < sectors {
			mustEncode(t, b, next, wantPage(b, next), api.OK)
		} else {
			mustEncode(t, b, next, nil, api.ErrRange)
		}
	}
}

// P9.1: Decode

func TestDecodeOfGoodPages(t *testing.T) {
	for size := range payload + 1 {
		for _, next := range goodNexts() {
			for _, b := range [][]byte{text(size), make([]byte, size), bytes.Repeat([]byte{0xff}, size)} {
				mustDecode(t, wantPage(b, next), b, next)
			}
		}
	}
}

// TestDecodeOfZeros: 64 of them are the page of no octets; others are none.
func TestDecodeOfZeros(t *testing.T) {
	mustDecode(t, make([]byte, 64), nil, 0)
	mustGlue(t, [][]byte{make([]byte, 64)}, nil, "64 zeros")
	for _, size := range []int{0, 1, 2, 4, 8, 52, 56, 60, 63, 65, 128, 1 << 16} {
		mustCorrupt(t, make([]byte, size), "zeros")
	}
}

// TestDecodeOfOtherLengths: a page's front or end, and a page with octets
// around it, are none, even where its memory goes on as it should.
func TestDecodeOfOtherLengths(t *testing.T) {
	mustCorrupt(t, nil, "nothing")
	mustCorrupt(t, []byte{}, "no octets")
	for _, b := range fewTexts() {
		page := wantPage(b, 5)
		for size := range page {
			mustCorrupt(t, page[:size], "a page's front")
			mustCorrupt(t, bytes.Clone(page[:size]), "a page's front")
			mustCorrupt(t, page[64-size:], "a page's end")
		}
		for _, more := range [][]byte{{0}, {0xff}, make([]byte, 64), page} {
			mustCorrupt(t, append(bytes.Clone(page), more...), "a page and more")
			mustCorrupt(t, append(bytes.Clone(more), page...), "a page behind more")
		}
		mustDecode(t, append(bytes.Clone(page), 1, 2, 3)[:64], b, 5)
	}
}

// TestDecodeOfEachOctetTurned: to each other octet, at each place.
func TestDecodeOfEachOctetTurned(t *testing.T) {
	for _, b := range fewTexts() {
		for _, next := range []int{0, 1, 258, sectors - 1} {
			page := wantPage(b, next)
			for place := range page {
				for turn := 1; turn < 256; turn++ {
					page[place] ^= byte(turn)
					mustCorrupt(t, page, "a page with an octet turned")
					page[place] ^= byte(turn)
				}
			}
			mustDecode(t, page, b, next)
		}
	}
}

// TestDecodeOfEachSize: though the sum is right; each number that two octets
// hold.
func TestDecodeOfEachSize(t *testing.T) {
	full := text(payload)
	for size := range 1 << 16 {
		s := summed(bodyOf(uint16(size), 9, full))
		if size == payload {
			mustDecode(t, s, full, 9)
		} else {
			mustCorrupt(t, s, "a page of another size than it is full")
		}
		empty := summed(bodyOf(uint16(size), 9, nil))
		if size <= payload {
			mustDecode(t, empty, make([]byte, size), 9)
		} else {
			mustCorrupt(t, empty, "a page of too many octets")
		}
	}
}

// TestDecodeOfUnusedOctets: each of them, turned to each that is no zero,
// though the sum is right.
func TestDecodeOfUnusedOctets(t *testing.T) {
	for size := range payload + 1 {
		b := text(size)
		body := bodyOf(uint16(size), 2, b)
		for place := 4 + size; place < len(body); place++ {
			for o := 1; o < 256; o++ {
				body[place] = byte(o)
				mustCorrupt(t, summed(body), "a page with an unused octet that is no zero")
			}
			body[place] = 0
		}
		mustDecode(t, summed(body), b, 2)
	}
}

// TestDecodeOfEachNext: one that no device has a sector for is no page's,
// though the sum is right.
func TestDecodeOfEachNext(t *testing.T) {
	for next := range 1 << 16 {
		for _, b := range [][]byte{nil, text(11), text(payload)} {
			s := summed(bodyOf(uint16(len(b)), uint16(next), b))
			if next < sectors {
				mustDecode(t, s, b, next)
			} else {
				mustCorrupt(t, s, "a page with a next that may not be")
			}
		}
	}
}

// otherSums: eight octets each that are something else than A of the body's
// sum: B, C, D; A of other octets; A in another order, or with more to it.
func otherSums(body []byte) [][]byte {
	var a, b, c, d, octets uint64
	for at := 0; at < len(body); at += 4 {
		a += uint64(binary.BigEndian.Uint32(body[at:]))
		b += a
		c += b
		d += c
	}
	for _, o := range body {
		octets += uint64(o)
	}
	little := binary.LittleEndian.AppendUint64(nil, a)
	out := [][]byte{little, summed(body[4:])[52:], summed(body[:4])[4:], summed(append(bytes.Clone(body), 1, 2, 3, 4))[60:]}
	for _, n := range []uint64{
		b, c, d, a + b, a + b + c + d, a ^ b ^ c ^ d, octets, ^a, -a, a + 1, a - 1, a << 8, a << 32, a + 1<<32, a + 1<<63,
		a &^ (1<<32 - 1), a ^ 1<<62, uint64(len(body)), 0, math.MaxUint64,
	} {
		out = append(out, binary.BigEndian.AppendUint64(nil, n))
	}
	return out
}

func TestDecodeOfSumsThatAreNone(t *testing.T) {
	for _, b := range [][]byte{{1}, text(4), text(51), text(52), bytes.Repeat([]byte{0xff}, 52)} {
		page := wantPage(b, 3)
		body, sum := page[:56], page[56:]
		for _, other := range otherSums(body) {
			s := append(bytes.Clone(body), other...)
			if bytes.Equal(other, sum) {
				t.Fatalf("the sum of %x counts as another one", body)
			}
			mustCorrupt(t, s, "a page with a sum that is none")
		}
		mustCorrupt(t, append(bytes.Clone(sum), body...), "a page with its sum ahead")
	}
}

// TestDecodeOfWordsSwapped: A alone counts, so octets whose words stand in
// another order have its sum too, and are another page.
func TestDecodeOfWordsSwapped(t *testing.T) {
	b := text(payload)
	page := wantPage(b, 4)
	for i := range 13 {
		for j := range i {
			swapped := bytes.Clone(b)
			copy(swapped[4*i:], b[4*j:4*j+4])
			copy(swapped[4*j:], b[4*i:4*i+4])
			s := slices.Concat(page[:4], swapped, page[56:])
			mustDecode(t, s, swapped, 4)
		}
	}
}

func TestDecodeOfRandomOctets(t *testing.T) {
	r := rand.New(rand.NewSource(93))
	for range 2000 {
		s := make([]byte, 64)
		r.Read(s)
		mustCorrupt(t, s, "random octets")
		s[0] |= 1
		mustCorrupt(t, summed(s[:56]), "random octets with their sum")
	}
}

// P9.2: Cut

// wantCut: the pages, told from the end: the last has what is left over.
func wantCut(b []byte) [][]byte {
	var out [][]byte
	for len(b) > 0 {
		last := len(b) % payload
		if last == 0 {
			last = payload
		}
		out = slices.Insert(out, 0, wantPage(b[len(b)-last:], 0))
		b = b[:len(b)-last]
	}
	return out
}

func sameLists(a, b [][]byte) bool {
	return slices.EqualFunc(a, b, bytes.Equal)
}

func TestCut(t *testing.T) {
	for _, b := range append(edgeTexts(), nil, []byte{}) {
		l := pages.Cut(b)
		if !sameLists(l, wantCut(b)) {
			t.Fatalf("Cut(%x) = %x, want %x", b, l, wantCut(b))
		}
		if len(l) != pages.Count(len(b)) {
			t.Fatalf("Cut of %d octets has %d pages, Count says %d", len(b), len(l), pages.Count(len(b)))
		}
	}
}

func TestCutByHand(t *testing.T) {
	for _, c := range []struct {
		size int
		want []int // octets of each page
	}{
		{0, nil}, {1, []int{1}}, {51, []int{51}}, {52, []int{52}}, {53, []int{52, 1}},
		{103, []int{52, 51}}, {104, []int{52, 52}}, {105, []int{52, 52, 1}}, {156, []int{52, 52, 52}},
	} {
		l := pages.Cut(text(c.size))
		if len(l) != len(c.want) {
			t.Errorf("Cut of %d octets has %d pages, want %d", c.size, len(l), len(c.want))
			continue
		}
		ahead := 0
		for i, s := range l {
			if len(s) != 64 || int(s[0])<<8|int(s[1]) != c.want[i] || s[2] != 0 || s[3] != 0 {
				t.Errorf("Cut of %d octets: page %d is %x, want %d octets and no next", c.size, i, s, c.want[i])
			}
			mustDecode(t, s, text(c.size)[ahead:ahead+c.want[i]], 0)
			ahead += c.want[i]
		}
	}
}

// P9.2: Glue

// manyPages: pages without next, some not full, some of no octets; and their
// octets.
func manyPages() ([][]byte, []byte) {
	var l [][]byte
	var whole []byte
	for i, size := range []int{52, 0, 1, 51, 52, 3, 0, 0, 26, 52} {
		b := text(size + i)[i:]
		l = append(l, wantPage(b, 0))
		whole = append(whole, b...)
	}
	return l, whole
}

func TestGlue(t *testing.T) {
	mustGlue(t, nil, nil, "no pages")
	mustGlue(t, [][]byte{}, nil, "an empty list")
	for size := range payload + 1 {
		page := wantPage(text(size), 0)
		mustGlue(t, [][]byte{page}, text(size), "one page")
		mustGlue(t, [][]byte{page, page}, append(text(size), text(size)...), "one page twice")
		mustGlue(t, [][]byte{page, wantPage([]byte{7, 8}, 0)}, append(text(size), 7, 8), "two pages")
	}
	l, whole := manyPages()
	mustGlue(t, l, whole, "many pages")
	for n := range l {
		// In each order that begins elsewhere.
		var octets []byte
		turned := append(slices.Clone(l[n:]), l[:n]...)
		for _, s := range turned {
			octets = append(octets, s[4:4+s[1]]...)
		}
		mustGlue(t, turned, octets, "many pages")
	}
}

// strangers: what may not be glued: no pages, and pages with a next.
func strangers() [][]byte {
	page := wantPage(text(9), 0)
	turned := bytes.Clone(page)
	turned[5] ^= 1
	out := [][]byte{
		nil, {}, {1}, page[:63], append(bytes.Clone(page), 0), append(bytes.Clone(page), page...), make([]byte, 63),
		make([]byte, 65), bytes.Repeat([]byte{0xff}, 64), turned,
		summed(bodyOf(53, 0, text(52))), summed(bodyOf(8, 0, text(9))), summed(bodyOf(9, sectors, text(9))),
		append(bytes.Clone(page[:56]), make([]byte, 8)...),
	}
	for _, next := range goodNexts() {
		if next != 0 {
			out = append(out, wantPage(text(9), next), wantPage(text(52), next), wantPage(nil, next))
		}
	}
	return out
}

func TestGlueOfOneStranger(t *testing.T) {
	l, _ := manyPages()
	for _, s := range strangers() {
		mustNotGlue(t, [][]byte{s}, "a stranger alone")
		mustNotGlue(t, [][]byte{s, s}, "a stranger twice")
		for place := range len(l) + 1 {
			mustNotGlue(t, slices.Insert(slices.Clone(l), place, s), "pages and a stranger")
		}
		for place := range l {
			changed := slices.Clone(l)
			changed[place] = s
			mustNotGlue(t, changed, "pages, of which one is a stranger")
		}
	}
}

// P9.3

func TestGlueOfCut(t *testing.T) {
	for _, b := range append(edgeTexts(), nil, []byte{}) {
		if back, err := pages.Glue(pages.Cut(b)...); err != api.OK || !bytes.Equal(back, b) {
			t.Fatalf("%x came back as %x, %d", b, back, err)
		}
	}
}

// TestGlueOfCutOfPieces: the pages of several texts, one behind the other, are
// those of octets too.
func TestGlueOfCutOfPieces(t *testing.T) {
	l := edgeTexts()
	for i := range len(l) - 2 {
		list := slices.Concat(pages.Cut(l[i]), pages.Cut(l[i+1]), pages.Cut(l[i+2]))
		mustGlue(t, list, slices.Concat(l[i], l[i+1], l[i+2]), "three texts' pages")
	}
}

// TestPagesComeBack: octets and next from the page, and the page from them.
func TestPagesComeBack(t *testing.T) {
	r := rand.New(rand.NewSource(94))
	for range 3000 {
		b := make([]byte, r.Intn(payload+1))
		r.Read(b)
		next := r.Intn(sectors)
		s, err := pages.Encode(b, next)
		if err != api.OK || !bytes.Equal(s, wantPage(b, next)) {
			t.Fatalf("Encode(%x, %d) = %x, %d", b, next, s, err)
		}
		back, backNext, err := pages.Decode(s)
		if err != api.OK || !bytes.Equal(back, b) || backNext != next {
			t.Fatalf("%x and %d came back as %x, %d, %d", b, next, back, backNext, err)
		}
		if again, err := pages.Encode(back, backNext); err != api.OK || !bytes.Equal(again, s) {
			t.Fatalf("%x came back as %x, %d", s, again, err)
		}
	}
}

// P9.4, and P1 to P3 of DOC.md

// room: a copy of octets with room behind it, filled, so that a write behind
// its end shows.
func room(b []byte) (list, whole []byte) {
	whole = append(bytes.Clone(b), bytes.Repeat([]byte{0xee}, 80)...)
	return whole[:len(b)], whole
}

// fill overwrites octets, with the room behind them.
func fill(b []byte, o byte) {
	b = b[:cap(b)]
	for i := range b {
		b[i] = o
	}
}

func TestOctetsThatAreHandedInStay(t *testing.T) {
	for _, b := range append(edgeTexts(), strangers()...) {
		list, whole := room(b)
		ahead := bytes.Clone(whole)
		for _, next := range []int{0, 1, -1, sectors} {
			pages.Encode(list, next)
		}
		pages.Decode(list)
		pages.Cut(list)
		pages.Glue(list, list)
		if !bytes.Equal(whole, ahead) {
			t.Fatalf("%x was changed", b)
		}
	}
}

// TestListsThatAreHandedInStay: with room behind each page, and behind the
// list; with a stranger in it, too.
func TestListsThatAreHandedInStay(t *testing.T) {
	good, _ := manyPages()
	for _, s := range append(strangers(), wantPage(text(9), 0)) {
		list := slices.Insert(slices.Clone(good), 5, s)
		rows := make([][]byte, 0, len(list)+3)
		var wholes, ahead [][]byte
		for _, page := range list {
			row, whole := room(page)
			rows = append(rows, row)
			wholes, ahead = append(wholes, whole), append(ahead, bytes.Clone(whole))
		}
		behind := []byte("behind")
		all := append(rows, behind, behind, behind)
		pages.Glue(rows...)
		if !sameLists(all[:len(list)], list) || !sameLists(wholes, ahead) {
			t.Fatalf("pages were changed that are glued")
		}
		for _, row := range all[len(list):] {
			if &row[0] != &behind[0] || string(row) != "behind" {
				t.Fatalf("the room behind a list of pages was changed")
			}
		}
	}
}

// TestAnswersShareNothingWithArguments: what is written over an argument later
// is not to be seen in an answer, nor the other way round.
func TestAnswersShareNothingWithArguments(t *testing.T) {
	for _, text := range edgeTexts() {
		b, _ := room(text)
		l := pages.Cut(b)
		fill(b, 'x')
		if !sameLists(l, wantCut(text)) {
			t.Fatalf("Cut(%x) shares memory with it", text)
		}
		list := wantCut(text)
		glued, _ := pages.Glue(list...)
		for _, s := range list {
			fill(s, 'x')
		}
		if !bytes.Equal(glued, text) {
			t.Fatalf("Glue of the pages of %x shares memory with them", text)
		}
	}
	for _, text := range fewTexts() {
		b, _ := room(text)
		s, _ := pages.Encode(b, 7)
		fill(b, 'x')
		if !bytes.Equal(s, wantPage(text, 7)) {
			t.Errorf("Encode(%x, 7) shares memory with it", text)
		}
		decoded, next, _ := pages.Decode(s)
		fill(s, 'x')
		if !bytes.Equal(decoded, text) || next != 7 {
			t.Errorf("Decode of the page of %x shares memory with it", text)
		}
		page := wantPage(text, 7)
		decoded, _, _ = pages.Decode(page)
		fill(decoded, 'x')
		glued, _ := pages.Glue(wantPage(nil, 0), wantPage(text, 0))
		fill(glued, 'y')
		if !bytes.Equal(page, wantPage(text, 7)) {
			t.Errorf("the page of %x shares memory with what comes of it", text)
		}
	}
}

// TestAnswersLeaveArgumentsAlone: writing over an answer, with the room behind
// it, changes nothing that was handed in.
func TestAnswersLeaveArgumentsAlone(t *testing.T) {
	for _, text := range edgeTexts() {
		b, whole := room(text)
		ahead := bytes.Clone(whole)
		for _, s := range pages.Cut(b) {
			fill(s, 'x')
		}
		if s, err := pages.Encode(b, 0); err == api.OK {
			fill(s, 'x')
		}
		list := wantCut(text)
		glued, _ := pages.Glue(list...)
		fill(glued, 'x')
		if !bytes.Equal(whole, ahead) || !sameLists(list, wantCut(text)) {
			t.Fatalf("what comes of %x shares memory with it", text)
		}
	}
}

// TestPagesOfACutShareNothing: with each other; room behind a page is its own,
// and so is the room behind the list.
func TestPagesOfACutShareNothing(t *testing.T) {
	for _, text := range edgeTexts() {
		want := wantCut(text)
		l, other := pages.Cut(text), pages.Cut(text)
		for i, s := range l {
			fill(s, 'x')
			if !sameLists(l[i+1:], want[i+1:]) {
				t.Fatalf("Cut(%x): page %d shares memory with one behind it", text, i)
			}
		}
		clear(l[:cap(l)])
		if !sameLists(other, want) || !sameLists(pages.Cut(text), want) {
			t.Fatalf("Cut(%x) shares memory with another answer", text)
		}
	}
}

func TestAnswersShareNothingWithEachOther(t *testing.T) {
	for _, text := range fewTexts() {
		for _, other := range fewTexts() {
			one, _ := pages.Encode(text, 6)
			two, _ := pages.Encode(other, 6)
			fill(one, 'x')
			if !bytes.Equal(two, wantPage(other, 6)) {
				t.Fatalf("the pages of %x and %x share memory", text, other)
			}
			mustEncode(t, text, 6, wantPage(text, 6), api.OK)
			first, _, _ := pages.Decode(wantPage(text, 6))
			second, _, _ := pages.Decode(two)
			fill(first, 'x')
			if !bytes.Equal(second, other) {
				t.Fatalf("the octets of the pages of %x and %x share memory", text, other)
			}
			list := [][]byte{wantPage(text, 0), wantPage(other, 0)}
			glued, _ := pages.Glue(list...)
			again, _ := pages.Glue(list...)
			fill(glued, 'x')
			if !bytes.Equal(again, slices.Concat(text, other)) {
				t.Fatalf("%x and %x, glued twice, share memory", text, other)
			}
		}
	}
}

// TestNothingIsKept: what was asked ahead of a call is not to be seen in it.
func TestNothingIsKept(t *testing.T) {
	l := fewTexts()
	for i := range l {
		for j := range l {
			pages.Encode(l[j], sectors-1)
			pages.Decode(wantPage(l[j], 8))
			pages.Glue(wantPage(l[j], 0), nil)
			pages.Cut(slices.Concat(l[j], l[i], l[j]))
			pages.Count(j)
			mustEncode(t, l[i], 6, wantPage(l[i], 6), api.OK)
			mustDecode(t, wantPage(l[i], 6), l[i], 6)
			mustGlue(t, [][]byte{wantPage(l[i], 0)}, l[i], "one page behind other calls")
			if !sameLists(pages.Cut(l[i]), wantCut(l[i])) {
				t.Fatalf("Cut(%x) = %x behind other calls", l[i], pages.Cut(l[i]))
			}
		}
	}
}

// TestNilAndEmptyAreOne: P1 of DOC.md.
func TestNilAndEmptyAreOne(t *testing.T) {
	empty := text(payload)[:0]
	for _, next := range append(goodNexts(), badNexts()...) {
		one, oneErr := pages.Encode(nil, next)
		two, twoErr := pages.Encode(empty, next)
		if !bytes.Equal(one, two) || oneErr != twoErr {
			t.Errorf("Encode(.., %d) tells no list and an empty one apart", next)
		}
	}
	mustCorrupt(t, empty, "no octets, with room behind them")
	if l := pages.Cut(empty); len(l) != 0 {
		t.Errorf("Cut of no octets = %x", l)
	}
	mustGlue(t, [][]byte{make([]byte, 64)}[:0], nil, "no pages, with room behind them")
	mustNotGlue(t, [][]byte{empty}, "a list of no octets")
	mustNotGlue(t, [][]byte{nil}, "a list of nothing")
}
