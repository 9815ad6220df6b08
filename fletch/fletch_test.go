package fletch_test

import (
	"bytes"
	"encoding/binary"
	"math"
	"math/big"
	"math/rand"
	"slices"
	"testing"

	"godown/api"
	"godown/fletch"
)

const (
	top     = math.MaxUint64
	topWord = math.MaxUint32
)

// edgeTexts: no octets, and texts of 1 to 33 of several looks.
func edgeTexts() [][]byte {
	l := [][]byte{nil, {}}
	for size := 1; size <= 33; size++ {
		rising := make([]byte, size)
		for i := range rising {
			rising[i] = byte(i + 1)
		}
		last := make([]byte, size)
		last[size-1] = 1
		l = append(l, rising, last, make([]byte, size),
			bytes.Repeat([]byte{0xff}, size), bytes.Repeat([]byte{0x80}, size))
	}
	return l
}

// edgeSums: each of A, B, C, D alone at an edge, and all of them.
func edgeSums() []api.Sum {
	l := []api.Sum{{}, {A: 1, B: 2, C: 3, D: 4}, {A: top, B: top - 1, C: 1, D: 1 << 63}}
	for _, n := range []uint64{1, topWord, 1 << 32, 1<<62 - 1, 1 << 62, 1<<63 - 1, 1 << 63, top - topWord, top - 1, top} {
		l = append(l, api.Sum{A: n}, api.Sum{B: n}, api.Sum{C: n}, api.Sum{D: n}, api.Sum{A: n, B: n, C: n, D: n})
	}
	return l
}

// randomTexts: always the same ones, of up to size octets.
func randomTexts(n, size int) [][]byte {
	r := rand.New(rand.NewSource(4))
	l := make([][]byte, n)
	for i := range l {
		l[i] = make([]byte, r.Intn(size+1))
		r.Read(l[i])
	}
	return l
}

// wantWords: with zeros put to the text itself, and read by the library.
func wantWords(b []byte) []uint32 {
	padded := append([]byte(nil), b...)
	for len(padded)%4 != 0 {
		padded = append(padded, 0)
	}
	var l []uint32
	for ; len(padded) > 0; padded = padded[4:] {
		l = append(l, binary.BigEndian.Uint32(padded))
	}
	return l
}

func bigOf(n uint64) *big.Int { return new(big.Int).SetUint64(n) }

// wantFeed: how often a word counts, told by binomials instead of running
// sums: the word with k behind it, itself counted, counts once in A, k times
// in B, k(k+1)/2 times in C and k(k+1)(k+2)/6 times in D.
func wantFeed(s api.Sum, words []uint32) api.Sum {
	n := int64(len(words))
	var parts [4]*big.Int
	for i := range parts {
		parts[i] = new(big.Int)
	}
	add := func(to int, value uint64, k int64, rise int) {
		times := new(big.Int).Binomial(k+int64(rise)-1, int64(rise))
		parts[to].Add(parts[to], times.Mul(times, bigOf(value)))
	}
	for from, value := range []uint64{s.A, s.B, s.C, s.D} {
		parts[from].Add(parts[from], bigOf(value))
		for to := from + 1; to < 4 && n > 0; to++ {
			add(to, value, n, to-from)
		}
	}
	for i, w := range words {
		parts[0].Add(parts[0], bigOf(uint64(w)))
		for to := 1; to < 4; to++ {
			add(to, uint64(w), n-int64(i), to)
		}
	}
	round := new(big.Int).Lsh(big.NewInt(1), 64)
	for _, p := range parts {
		p.Mod(p, round)
	}
	return api.Sum{A: parts[0].Uint64(), B: parts[1].Uint64(), C: parts[2].Uint64(), D: parts[3].Uint64()}
}

// spare: a copy of text with room behind it, filled, so that zeros put to it
// in place show, and so do octets read behind its end.
func spare(text []byte) (list, whole []byte) {
	whole = append(append([]byte(nil), text...), bytes.Repeat([]byte{0xee}, 32)...)
	return whole[:len(text)], whole
}

// fill overwrites a list, with the room behind it.
func fill[T any](l []T, v T) {
	l = l[:cap(l)]
	for i := range l {
		l[i] = v
	}
}

// P4.1

func TestWords(t *testing.T) {
	for _, c := range []struct {
		b    []byte
		want []uint32
	}{
		{nil, nil}, {[]byte{}, nil},
		{[]byte{0}, []uint32{0}},
		{[]byte{1}, []uint32{0x01000000}}, {[]byte{0xff}, []uint32{0xff000000}},
		{[]byte{1, 2}, []uint32{0x01020000}},
		{[]byte{1, 2, 3}, []uint32{0x01020300}},
		{[]byte{1, 2, 3, 4}, []uint32{0x01020304}},
		{[]byte{1, 2, 3, 4, 5}, []uint32{0x01020304, 0x05000000}},
		{[]byte{1, 2, 3, 4, 5, 6}, []uint32{0x01020304, 0x05060000}},
		{[]byte{1, 2, 3, 4, 5, 6, 7}, []uint32{0x01020304, 0x05060700}},
		{[]byte{1, 2, 3, 4, 5, 6, 7, 8}, []uint32{0x01020304, 0x05060708}},
		{[]byte{1, 2, 3, 4, 5, 6, 7, 8, 9}, []uint32{0x01020304, 0x05060708, 0x09000000}},
		{[]byte{0, 0, 0, 0}, []uint32{0}},
		{[]byte{0, 0, 0, 0, 0}, []uint32{0, 0}},
		{[]byte{0, 0, 0, 1}, []uint32{1}}, {[]byte{1, 0, 0, 0}, []uint32{1 << 24}},
		{[]byte{0, 0, 1, 0}, []uint32{1 << 8}}, {[]byte{0, 1, 0, 0}, []uint32{1 << 16}},
		{[]byte{0x80, 0, 0, 0}, []uint32{1 << 31}},
		{[]byte{0xff, 0xff, 0xff, 0xff}, []uint32{topWord}},
		{[]byte{0xff, 0xff, 0xff, 0xff, 0, 0, 0, 0}, []uint32{topWord, 0}},
	} {
		if l := fletch.Words(c.b); !slices.Equal(l, c.want) {
			t.Errorf("Words(%x) = %x, want %x", c.b, l, c.want)
		}
	}
}

func TestWordsOfManyTexts(t *testing.T) {
	for _, b := range append(edgeTexts(), randomTexts(500, 100)...) {
		if l, want := fletch.Words(b), wantWords(b); !slices.Equal(l, want) {
			t.Errorf("Words(%x) = %x, want %x", b, l, want)
		}
	}
}

// TestRoomBehindATextIsNotOfIt: zeros are put to the last word, not what
// stands behind the text.
func TestRoomBehindATextIsNotOfIt(t *testing.T) {
	for _, text := range edgeTexts() {
		b, _ := spare(text)
		if l, want := fletch.Words(b), wantWords(text); !slices.Equal(l, want) {
			t.Errorf("Words(%x) = %x, want %x", b, l, want)
		}
		if s, want := fletch.Of(b), wantFeed(api.Sum{}, wantWords(text)); s != want {
			t.Errorf("Of(%x) = %x, want %x", b, s, want)
		}
	}
}

func TestOf(t *testing.T) {
	for _, c := range []struct {
		b    []byte
		want api.Sum
	}{
		{nil, api.Sum{}}, {[]byte{}, api.Sum{}},
		{[]byte{0, 0, 0, 1}, api.Sum{A: 1, B: 1, C: 1, D: 1}},
		{[]byte{1}, api.Sum{A: 1 << 24, B: 1 << 24, C: 1 << 24, D: 1 << 24}},
		{[]byte{0, 1}, api.Sum{A: 1 << 16, B: 1 << 16, C: 1 << 16, D: 1 << 16}},
		{[]byte{0, 0, 1}, api.Sum{A: 1 << 8, B: 1 << 8, C: 1 << 8, D: 1 << 8}},
		{[]byte{0, 0, 0, 1, 0}, api.Sum{A: 1, B: 2, C: 3, D: 4}},
		{[]byte{0, 0, 0, 1, 0, 0, 0, 0}, api.Sum{A: 1, B: 2, C: 3, D: 4}},
		{[]byte{0, 0, 0, 0, 0, 0, 0, 1}, api.Sum{A: 1, B: 1, C: 1, D: 1}},
		{[]byte{0, 0, 0, 1, 0, 0, 0, 2}, api.Sum{A: 3, B: 4, C: 5, D: 6}},
		{[]byte{0, 0, 0, 2, 0, 0, 0, 1}, api.Sum{A: 3, B: 5, C: 7, D: 9}},
		{[]byte{0, 0, 0, 1, 0, 0, 0, 0, 0, 0, 0, 0}, api.Sum{A: 1, B: 3, C: 6, D: 10}},
		{make([]byte, 4), api.Sum{}}, {make([]byte, 64), api.Sum{}},
		{[]byte{0xff, 0xff, 0xff, 0xff}, api.Sum{A: topWord, B: topWord, C: topWord, D: topWord}},
		{bytes.Repeat([]byte{0xff}, 8), api.Sum{A: 2 * topWord, B: 3 * topWord, C: 4 * topWord, D: 5 * topWord}},
	} {
		if s := fletch.Of(c.b); s != c.want {
			t.Errorf("Of(%x) = %d, want %d", c.b, s, c.want)
		}
	}
}

func TestFeed(t *testing.T) {
	one, zero, most := []byte{0, 0, 0, 1}, make([]byte, 4), bytes.Repeat([]byte{0xff}, 4)
	for _, c := range []struct {
		s    api.Sum
		b    []byte
		want api.Sum
	}{
		{api.Sum{A: 1, B: 2, C: 3, D: 4}, nil, api.Sum{A: 1, B: 2, C: 3, D: 4}},
		{api.Sum{A: top, B: top, C: top, D: top}, []byte{}, api.Sum{A: top, B: top, C: top, D: top}},
		{api.Sum{A: 1, B: 2, C: 3, D: 4}, zero, api.Sum{A: 1, B: 3, C: 6, D: 10}},
		{api.Sum{A: 1, B: 2, C: 3, D: 4}, one, api.Sum{A: 2, B: 4, C: 7, D: 11}},
		{api.Sum{A: top}, one, api.Sum{}},
		{api.Sum{A: top}, zero, api.Sum{A: top, B: top, C: top, D: top}},
		{api.Sum{A: top - 1}, one, api.Sum{A: top, B: top, C: top, D: top}},
		{api.Sum{B: top}, one, api.Sum{A: 1, B: 0, C: 0, D: 0}},
		{api.Sum{C: top}, one, api.Sum{A: 1, B: 1, C: 0, D: 0}},
		{api.Sum{D: top}, one, api.Sum{A: 1, B: 1, C: 1, D: 0}},
		{api.Sum{A: top, B: top, C: top, D: top}, one, api.Sum{A: 0, B: top, C: top - 1, D: top - 2}},
		{api.Sum{A: top, B: top, C: top, D: top}, zero, api.Sum{A: top, B: top - 1, C: top - 2, D: top - 3}},
		{api.Sum{A: top - topWord}, most, api.Sum{A: top, B: top, C: top, D: top}},
		{api.Sum{A: top - topWord + 1}, most, api.Sum{}},
		{api.Sum{A: topWord}, one, api.Sum{A: 1 << 32, B: 1 << 32, C: 1 << 32, D: 1 << 32}},
	} {
		if s := fletch.Feed(c.s, c.b); s != c.want {
			t.Errorf("Feed(%d, %x) = %d, want %d", c.s, c.b, s, c.want)
		}
	}
}

func TestSumsOfManyTexts(t *testing.T) {
	for _, b := range append(edgeTexts(), randomTexts(50, 300)...) {
		words := wantWords(b)
		if s, want := fletch.Of(b), wantFeed(api.Sum{}, words); s != want {
			t.Errorf("Of(%x) = %d, want %d", b, s, want)
		}
		for _, start := range edgeSums() {
			if s, want := fletch.Feed(start, b), wantFeed(start, words); s != want {
				t.Fatalf("Feed(%d, %x) = %d, want %d", start, b, s, want)
			}
		}
	}
}

// TestSumsThatGoRound: so long a text that D goes round from zero on.
func TestSumsThatGoRound(t *testing.T) {
	b := bytes.Repeat([]byte{0xff}, 4*5000)
	s := fletch.Of(b)
	if want := wantFeed(api.Sum{}, wantWords(b)); s != want {
		t.Errorf("Of(%d octets) = %d, want %d", len(b), s, want)
	}
	times := new(big.Int).Binomial(5002, 3)
	if times.Mul(times, bigOf(topWord)).IsUint64() {
		t.Errorf("D of so short a text does not go round")
	}
}

func TestOctets(t *testing.T) {
	for _, c := range []struct {
		s    api.Sum
		want string
	}{
		{api.Sum{}, string(make([]byte, 32))},
		{api.Sum{A: 1, B: 2, C: 3, D: 4}, "\x00\x00\x00\x00\x00\x00\x00\x01\x00\x00\x00\x00\x00\x00\x00\x02" +
			"\x00\x00\x00\x00\x00\x00\x00\x03\x00\x00\x00\x00\x00\x00\x00\x04"},
		{api.Sum{A: 0x0102030405060708, B: 0x1112131415161718, C: 0x8182838485868788, D: 0xf1f2f3f4f5f6f7f8},
			"\x01\x02\x03\x04\x05\x06\x07\x08\x11\x12\x13\x14\x15\x16\x17\x18" +
				"\x81\x82\x83\x84\x85\x86\x87\x88\xf1\xf2\xf3\xf4\xf5\xf6\xf7\xf8"},
		{api.Sum{A: top, B: top, C: top, D: top}, string(bytes.Repeat([]byte{0xff}, 32))},
	} {
		if b := fletch.Octets(c.s); string(b) != c.want {
			t.Errorf("Octets(%d) = %x, want %x", c.s, b, c.want)
		}
		if s, err := fletch.Read([]byte(c.want)); s != c.s || err != api.OK {
			t.Errorf("Read(%x) = %d, %d, want %d", c.want, s, err, c.s)
		}
	}
	for _, s := range edgeSums() {
		var want []byte
		for _, n := range []uint64{s.A, s.B, s.C, s.D} {
			want = binary.BigEndian.AppendUint64(want, n)
		}
		if b := fletch.Octets(s); !bytes.Equal(b, want) {
			t.Errorf("Octets(%d) = %x, want %x", s, b, want)
		}
	}
}

// TestReadOfOtherLengths: whatever the octets are, no sum comes beside the
// error.
func TestReadOfOtherLengths(t *testing.T) {
	if s, err := fletch.Read(nil); s != (api.Sum{}) || err != api.ErrShort {
		t.Errorf("Read(nil) = %d, %d", s, err)
	}
	for _, size := range []int{0, 1, 4, 7, 8, 16, 24, 28, 30, 31, 32, 33, 34, 36, 40, 63, 64, 1000} {
		want := api.OK
		if size < 32 {
			want = api.ErrShort
		} else if size > 32 {
			want = api.ErrLong
		}
		for _, o := range []byte{0, 1, 0xff} {
			b, _ := spare(bytes.Repeat([]byte{o}, size))
			s, err := fletch.Read(b)
			if err != want {
				t.Errorf("Read of %d octets = %d, %d, want error %d", size, s, err, want)
			}
			if err != api.OK && s != (api.Sum{}) {
				t.Errorf("Read of %d octets = %d beside error %d", size, s, err)
			}
		}
	}
}

func TestSumsComeBack(t *testing.T) {
	sums := edgeSums()
	for _, b := range randomTexts(200, 100) {
		sums = append(sums, fletch.Of(b))
	}
	for _, s := range sums {
		if back, err := fletch.Read(fletch.Octets(s)); back != s || err != api.OK {
			t.Errorf("Read(Octets(%d)) = %d, %d", s, back, err)
		}
	}
}

func TestOctetsComeBack(t *testing.T) {
	r := rand.New(rand.NewSource(32))
	for range 500 {
		b := make([]byte, 32)
		r.Read(b)
		s, err := fletch.Read(b)
		if err != api.OK || !bytes.Equal(fletch.Octets(s), b) {
			t.Errorf("Octets(Read(%x)) = %x, %d", b, fletch.Octets(s), err)
		}
	}
	// Each bit is of one place alone.
	for bit := range 256 {
		b := make([]byte, 32)
		b[bit/8] = 0x80 >> (bit % 8)
		if s, err := fletch.Read(b); err != api.OK || !bytes.Equal(fletch.Octets(s), b) {
			t.Errorf("Octets(Read(%x)) = %x, %d", b, fletch.Octets(s), err)
		}
	}
}

// P4.2

func TestTextsInTwoParts(t *testing.T) {
	for _, b := range append(edgeTexts(), randomTexts(30, 120)...) {
		for at := 0; at <= len(b); at += 4 {
			first, rest := b[:at], b[at:]
			if s, want := fletch.Feed(fletch.Of(first), rest), fletch.Of(b); s != want {
				t.Errorf("%x and %x: %d, want %d", first, rest, s, want)
			}
			for _, start := range edgeSums() {
				if s, want := fletch.Feed(fletch.Feed(start, first), rest), fletch.Feed(start, b); s != want {
					t.Fatalf("%x and %x behind %d: %d, want %d", first, rest, start, s, want)
				}
			}
		}
	}
}

func TestTextsInManyParts(t *testing.T) {
	for _, b := range randomTexts(50, 200) {
		var s api.Sum
		for rest := b; len(rest) > 0; rest = rest[min(4, len(rest)):] {
			s = fletch.Feed(s, rest[:min(4, len(rest))])
		}
		if want := fletch.Of(b); s != want {
			t.Errorf("%x word by word: %d, want %d", b, s, want)
		}
	}
}

// TestPartsOfNoWholeWords: zeros stand between such a part and the next one.
func TestPartsOfNoWholeWords(t *testing.T) {
	for _, first := range edgeTexts() {
		rest := []byte{9, 8, 7, 6, 5}
		padded := append([]byte(nil), first...)
		for len(padded)%4 != 0 {
			padded = append(padded, 0)
		}
		want := fletch.Of(append(padded, rest...))
		if s := fletch.Feed(fletch.Of(first), rest); s != want {
			t.Errorf("%x and %x: %d, want %d", first, rest, s, want)
		}
	}
}

// P4.3

func TestOneWordDiffers(t *testing.T) {
	words := []uint32{0, 1, 2, 0xff, 0x100, 0xffff, 0x10000, 1<<31 - 1, 1 << 31, topWord - 1, topWord}
	for _, fillWith := range []byte{0, 1, 0xff} {
		for size := 1; size <= 9; size++ {
			for at := range size {
				b := bytes.Repeat([]byte{fillWith}, 4*size)
				seen := map[api.Sum]uint32{}
				for _, w := range words {
					binary.BigEndian.PutUint32(b[4*at:], w)
					s := fletch.Of(b)
					if other, met := seen[s]; met {
						t.Errorf("word %d of %d: %x and %x have one sum", at, size, other, w)
					}
					seen[s] = w
				}
			}
		}
	}
}

// TestOneBitDiffers: wherever it stands, behind whatever sum.
func TestOneBitDiffers(t *testing.T) {
	for _, start := range edgeSums() {
		for _, b := range [][]byte{make([]byte, 21), bytes.Repeat([]byte{0xff}, 24), []byte("godown keeps it")} {
			s := fletch.Feed(start, b)
			for bit := range 8 * len(b) {
				other := append([]byte(nil), b...)
				other[bit/8] ^= 1 << (bit % 8)
				if fletch.Feed(start, other) == s {
					t.Fatalf("%x and %x behind %d have one sum", b, other, start)
				}
			}
		}
	}
}

// P4.4

func TestWhatIsHandedInStays(t *testing.T) {
	calls := map[string]func(b []byte){
		"Words": func(b []byte) { fletch.Words(b) },
		"Of":    func(b []byte) { fletch.Of(b) },
		"Feed":  func(b []byte) { fletch.Feed(api.Sum{A: 1}, b) },
		"Read":  func(b []byte) { fletch.Read(b) },
	}
	for name, call := range calls {
		for _, text := range edgeTexts() {
			b, whole := spare(text)
			before := string(whole)
			call(b)
			if string(whole) != before {
				t.Errorf("%s changed what it was handed: %x", name, whole)
			}
		}
	}
	start := api.Sum{A: 1, B: 2, C: 3, D: 4}
	if fletch.Feed(start, []byte{1}); start != (api.Sum{A: 1, B: 2, C: 3, D: 4}) {
		t.Errorf("Feed changed its sum: %d", start)
	}
}

func TestAnswersShareNothingWithArguments(t *testing.T) {
	for _, text := range edgeTexts() {
		b, whole := spare(text)
		l := fletch.Words(b)
		fill(whole, 'x')
		if !slices.Equal(l, wantWords(text)) {
			t.Errorf("Words(%x) shares its argument: %x", text, l)
		}
		fill(l, topWord)
		if string(whole) != string(bytes.Repeat([]byte{'x'}, len(whole))) {
			t.Errorf("Words(%x) hands its argument out: %x", text, whole)
		}
	}
}

// TestAnswersShareNothingWithEachOther: room behind an answer is its own too.
func TestAnswersShareNothingWithEachOther(t *testing.T) {
	for _, text := range edgeTexts() {
		one, two := fletch.Words(text), fletch.Words(text)
		fill(one, topWord-1)
		want := wantWords(text)
		if !slices.Equal(two, want) || !slices.Equal(fletch.Words(text), want) {
			t.Errorf("two answers of Words(%x) share memory", text)
		}
	}
	for _, s := range edgeSums() {
		want := string(fletch.Octets(s))
		one, two := fletch.Octets(s), fletch.Octets(s)
		fill(one, 'x')
		if string(two) != want || string(fletch.Octets(s)) != want {
			t.Errorf("two answers of Octets(%d) share memory", s)
		}
	}
}

// TestNothingIsKept: what was asked ahead of a call is not to be seen in it.
func TestNothingIsKept(t *testing.T) {
	texts := append(edgeTexts(), randomTexts(50, 64)...)
	sums := make([]api.Sum, len(texts))
	for i, b := range texts {
		sums[i] = fletch.Of(b)
	}
	for i := len(texts) - 1; i >= 0; i-- {
		fletch.Read(texts[i])
		fletch.Feed(api.Sum{A: top, D: 7}, texts[0])
		if s := fletch.Of(texts[i]); s != sums[i] {
			t.Errorf("Of(%x) = %d, was %d", texts[i], s, sums[i])
		}
	}
}
