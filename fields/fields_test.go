package fields_test

import (
	"bytes"
	"encoding/binary"
	"io"
	"math"
	"math/rand"
	"slices"
	"strings"
	"testing"

	"godown/api"
	"godown/fields"
)

const (
	maxFields = 1 << 10
	maxField  = 1 << 16
	maxNumber = 1<<62 - 1
)

// edgeLists: none, lists of empty texts, of each octet, at the limits.
func edgeLists() [][]string {
	each := make([]string, 256)
	for i := range each {
		each[i] = string([]byte{byte(i)})
	}
	return [][]string{
		nil, {}, {""}, {"", ""}, {"", "a", ""}, {"a"}, {"a", "b"}, {"b", "a", "a"},
		{"\x00"}, {"\x00\x00\x00"}, {"\x00\x01\x00\x00\x01a"}, {"\xff\xff\xff\xff"},
		{"ä", "\xc3", "\xa4", "日本"}, {strings.Repeat("x", 255)}, {strings.Repeat("x", 256), "y"},
		{strings.Repeat("z", 257), ""}, {"", strings.Repeat("\xff", maxField-1)},
		{strings.Repeat("ab", maxField/2)}, {"v", strings.Repeat("\x00", maxField), "w"},
		each, make([]string, 255), make([]string, 256), make([]string, 257),
		make([]string, maxFields-1), make([]string, maxFields),
		slices.Repeat([]string{"ab", ""}, maxFields/2),
	}
}

// shortLists: those of the edge lists whose octets are few.
func shortLists() [][]string {
	return slices.DeleteFunc(edgeLists(), func(l []string) bool { return len(wantWrite(l)) > 64 })
}

// randomLists: always the same ones.
func randomLists(n int) [][]string {
	r := rand.New(rand.NewSource(5))
	out := make([][]string, n)
	for i := range out {
		for range r.Intn(12) {
			b := make([]byte, r.Intn(20)*r.Intn(20))
			r.Read(b)
			out[i] = append(out[i], string(b))
		}
	}
	return out
}

// wantWrite: by the library, from numbers of 32 bits whose front is dropped.
func wantWrite(l []string) []byte {
	number := func(n, size int) []byte {
		return binary.BigEndian.AppendUint32(nil, uint32(n))[4-size:]
	}
	out := number(len(l), 2)
	for _, s := range l {
		out = slices.Concat(out, number(len(s), 3), []byte(s))
	}
	return out
}

// wantRead: by a reader of the library, which says itself where it ends.
func wantRead(b []byte) ([]string, api.Errno) {
	r := bytes.NewReader(b)
	number := func(size int) (int, bool) {
		part := make([]byte, 4)
		_, err := io.ReadFull(r, part[4-size:])
		return int(binary.BigEndian.Uint32(part)), err == nil
	}
	left, ok := number(2)
	if !ok {
		return nil, api.ErrShort
	} else if left > maxFields {
		return nil, api.ErrCount
	}
	var out []string
	for ; left > 0; left-- {
		size, ok := number(3)
		if !ok {
			return nil, api.ErrShort
		} else if size > maxField {
			return nil, api.ErrLong
		}
		part := make([]byte, size)
		if _, err := io.ReadFull(r, part); err != nil {
			return nil, api.ErrShort
		}
		out = append(out, string(part))
	}
	if _, err := r.ReadByte(); err != io.EOF {
		return nil, api.ErrState
	}
	return out, api.OK
}

// spare: a copy of a list with room behind it, filled, so that an append in
// place, or a look behind the end, shows.
func spare[T any](l []T, room T) (list, whole []T) {
	whole = append(append([]T(nil), l...), slices.Repeat([]T{room}, 32)...)
	return whole[:len(l)], whole
}

func fill[T any](l []T, with T) {
	l = l[:cap(l)]
	for i := range l {
		l[i] = with
	}
}

// start: of octets, as much as a message needs.
func start(b []byte) []byte {
	return b[:min(len(b), 32)]
}

// mustRead: Read answers what the library reads, and no texts beside an error.
func mustRead(t *testing.T, b []byte) {
	t.Helper()
	l, err := fields.Read(b)
	want, wantErr := wantRead(b)
	if err != wantErr || !slices.Equal(l, want) {
		t.Errorf("Read(%x.., %d octets) = %d texts, %d, want %d, %d", start(b), len(b), len(l), err, len(want), wantErr)
	}
	if err != api.OK && len(l) != 0 {
		t.Errorf("Read(%x..) = %q beside error %d", start(b), l, err)
	}
}

// P5.1

func TestWriteOfTheChapter(t *testing.T) {
	for _, c := range []struct {
		l    []string
		want string
	}{
		{[]string{"a"}, "\x00\x01\x00\x00\x01a"},
		{nil, "\x00\x00"},
		{[]string{}, "\x00\x00"},
		{[]string{""}, "\x00\x01\x00\x00\x00"},
		{[]string{"", ""}, "\x00\x02\x00\x00\x00\x00\x00\x00"},
		{[]string{"ab", "", "c"}, "\x00\x03\x00\x00\x02ab\x00\x00\x00\x00\x00\x01c"},
		{[]string{"ä"}, "\x00\x01\x00\x00\x02\xc3\xa4"},
		{[]string{strings.Repeat("x", 258)}, "\x00\x01\x00\x01\x02" + strings.Repeat("x", 258)},
		{[]string{strings.Repeat("x", maxField)}, "\x00\x01\x01\x00\x00" + strings.Repeat("x", maxField)},
		{make([]string, maxFields), "\x04\x00" + strings.Repeat("\x00", 3*maxFields)},
	} {
		if b, err := fields.Write(c.l...); string(b) != c.want || err != api.OK {
			t.Errorf("Write of %d texts = %x.., %d, want %x..", len(c.l), start(b), err, start([]byte(c.want)))
		}
		if l, err := fields.Read([]byte(c.want)); !slices.Equal(l, c.l) || err != api.OK {
			t.Errorf("Read(%x..) = %d texts, %d, want %d", start([]byte(c.want)), len(l), err, len(c.l))
		}
	}
	if b, err := fields.Write(); string(b) != "\x00\x00" || err != api.OK {
		t.Errorf("Write() = %x, %d", b, err)
	}
}

func TestWriteOfManyLists(t *testing.T) {
	for _, l := range append(edgeLists(), randomLists(300)...) {
		if b, err := fields.Write(l...); !bytes.Equal(b, wantWrite(l)) || err != api.OK {
			t.Errorf("Write of %d texts = %x.., %d, want %x..", len(l), start(b), err, start(wantWrite(l)))
		}
	}
}

func TestWriteOfTooMuch(t *testing.T) {
	long := strings.Repeat("x", maxField+1)
	most := strings.Repeat("x", maxField)
	for _, c := range []struct {
		what string
		l    []string
		want api.Errno
	}{
		{"one text too many", make([]string, maxFields+1), api.ErrCount},
		{"as many more", make([]string, 2*maxFields), api.ErrCount},
		{"more than two octets count", make([]string, 1<<16), api.ErrCount},
		{"and one of them", make([]string, 1<<16+1), api.ErrCount},
		{"one octet too many", []string{long}, api.ErrLong},
		{"in the last text", []string{"a", "", most, long}, api.ErrLong},
		{"in the first text", []string{long, "a"}, api.ErrLong},
		{"in the last of the most", append(make([]string, maxFields-1), long), api.ErrLong},
		{"more than three octets count", []string{strings.Repeat("x", 1<<24)}, api.ErrLong},
		{"and one of them", []string{strings.Repeat("x", 1<<24+1)}, api.ErrLong},
		{"both, the long one first", append([]string{long}, make([]string, maxFields)...), api.ErrCount},
		{"both, the long one last", append(make([]string, maxFields), long), api.ErrCount},
	} {
		if b, err := fields.Write(c.l...); err != c.want || len(b) != 0 {
			t.Errorf("%s: %x.., %d, want error %d", c.what, start(b), err, c.want)
		}
	}
}

func TestReadOfWrongOctets(t *testing.T) {
	full := string(wantWrite(make([]string, maxFields)))
	long := "\x01\x00\x01" // the length of a text that is one octet too long
	for _, c := range []struct {
		what, b string
		want    api.Errno
	}{
		{"nothing", "", api.ErrShort},
		{"half a count", "\x00", api.ErrShort},
		{"half a count that would be too great", "\xff", api.ErrShort},
		{"no length", "\x00\x01", api.ErrShort},
		{"one octet of a length", "\x00\x01\x00", api.ErrShort},
		{"two octets of a length", "\x00\x01\x00\x00", api.ErrShort},
		{"two octets of a length that would be too great", "\x00\x01\xff\xff", api.ErrShort},
		{"no text", "\x00\x01\x00\x00\x01", api.ErrShort},
		{"half a text", "\x00\x01\x00\x00\x02a", api.ErrShort},
		{"no second length", "\x00\x02\x00\x00\x01a", api.ErrShort},
		{"half a second length", "\x00\x02\x00\x00\x01a\x00\x00", api.ErrShort},
		{"no second text", "\x00\x02\x00\x00\x01a\x00\x00\x01", api.ErrShort},
		{"a great text, one octet of it missing", "\x00\x01\x01\x00\x00" + strings.Repeat("x", maxField-1), api.ErrShort},
		{"a great text, all of it missing", "\x00\x01\x01\x00\x00", api.ErrShort},
		{"the most texts, one missing", full[:len(full)-3], api.ErrShort},
		{"the most texts, none of them there", "\x04\x00", api.ErrShort},
		{"a count too great, and it ends", "\x04\x01", api.ErrCount},
		{"a count too great, and texts enough", "\x04\x01" + strings.Repeat("\x00", 3*(maxFields+1)), api.ErrCount},
		{"the greatest count", "\xff\xff", api.ErrCount},
		{"a count too great ahead of a great length", "\x04\x01" + long, api.ErrCount},
		{"a length too great, and it ends", "\x00\x01" + long, api.ErrLong},
		{"a length too great, and octets enough", "\x00\x01" + long + strings.Repeat("x", maxField+1), api.ErrLong},
		{"the greatest length", "\x00\x01\xff\xff\xff", api.ErrLong},
		{"a length too great ahead of one that is missing", "\x00\x02" + long, api.ErrLong},
		{"a length too great behind a text", "\x00\x02\x00\x00\x01a" + long, api.ErrLong},
		{"a text that ends ahead of a great length", "\x00\x02\x00\x00\x09a" + long, api.ErrShort},
		{"an octet behind none", "\x00\x00\x00", api.ErrState},
		{"an octet behind one", "\x00\x01\x00\x00\x01ab", api.ErrState},
		{"an octet behind the most", full + "\x00", api.ErrState},
		{"a great length behind all", "\x00\x01\x00\x00\x01a" + long, api.ErrState},
		{"a list behind all", "\x00\x01\x00\x00\x01a\x00\x01\x00\x00\x01a", api.ErrState},
		{"a length too great, and octets behind it", "\x00\x01" + long + strings.Repeat("x", maxField+9), api.ErrLong},
	} {
		b, _ := spare([]byte(c.b), 0)
		if l, err := fields.Read(b); err != c.want || len(l) != 0 {
			t.Errorf("%s: Read = %d texts, %d, want error %d", c.what, len(l), err, c.want)
		}
		mustRead(t, b)
	}
	if l, err := fields.Read(nil); len(l) != 0 || err != api.ErrShort {
		t.Errorf("Read(nil) = %q, %d", l, err)
	}
}

// TestReadOfPieces: what ends at any place is too short, and what goes on
// behind its end is told too.
func TestReadOfPieces(t *testing.T) {
	for _, l := range append(shortLists(), randomLists(40)...) {
		whole := wantWrite(l)
		for size := range len(whole) {
			b, _ := spare(whole[:size], 0)
			if l, err := fields.Read(b); err != api.ErrShort || len(l) != 0 {
				t.Fatalf("Read(%x.., %d of %d) = %q, %d", start(b), size, len(whole), l, err)
			}
		}
		for _, more := range []string{"\x00", "\x01", "\xff", "\x00\x00\x01a"} {
			if l, err := fields.Read(slices.Concat(whole, []byte(more))); err != api.ErrState || len(l) != 0 {
				t.Errorf("Read(%x.. and %x) = %q, %d", start(whole), more, l, err)
			}
		}
	}
}

// TestReadOfEachCountAndLength: with nothing behind them.
func TestReadOfEachCountAndLength(t *testing.T) {
	for count := range 1 << 16 {
		want := api.ErrShort
		if count == 0 {
			want = api.OK
		} else if count > maxFields {
			want = api.ErrCount
		}
		if l, err := fields.Read([]byte{byte(count >> 8), byte(count)}); err != want || len(l) != 0 {
			t.Fatalf("Read of the count %d = %q, %d, want %d", count, l, err, want)
		}
	}
	for length := 0; length < 1<<24; length += 1 + length/300 {
		want := api.ErrShort
		if length == 0 {
			want = api.OK
		} else if length > maxField {
			want = api.ErrLong
		}
		if _, err := fields.Read([]byte{0, 1, byte(length >> 16), byte(length >> 8), byte(length)}); err != want {
			t.Fatalf("Read of the length %d = %d, want %d", length, err, want)
		}
	}
}

// TestReadOfOctetsGoneWrong: one octet of a list changed, to any other.
func TestReadOfOctetsGoneWrong(t *testing.T) {
	for _, l := range shortLists() {
		b := wantWrite(l)
		for at, was := range b {
			for o := range 256 {
				b[at] = byte(o)
				mustRead(t, b)
			}
			b[at] = was
		}
	}
}

func TestReadOfRandomOctets(t *testing.T) {
	r := rand.New(rand.NewSource(55))
	for range 20000 {
		b := make([]byte, r.Intn(40))
		for i := range b {
			b[i] = byte(r.Intn(3)) * byte(r.Intn(3))
		}
		mustRead(t, b)
		if len(b) > 4 {
			b[0], b[2], b[3] = 0, 0, 0
			mustRead(t, b)
		}
	}
}

// P5.2

func TestNumbers(t *testing.T) {
	for _, c := range []struct {
		n    int
		want string
		err  api.Errno
	}{
		{0, "\x00\x00\x00\x00\x00\x00\x00\x00", api.OK},
		{1, "\x00\x00\x00\x00\x00\x00\x00\x01", api.OK},
		{258, "\x00\x00\x00\x00\x00\x00\x01\x02", api.OK},
		{0x0102030405060708, "\x01\x02\x03\x04\x05\x06\x07\x08", api.OK},
		{1 << 40, "\x00\x00\x01\x00\x00\x00\x00\x00", api.OK},
		{maxNumber, "\x3f\xff\xff\xff\xff\xff\xff\xff", api.OK},
		{maxNumber + 1, "\x40\x00\x00\x00\x00\x00\x00\x00", api.ErrRange},
		{math.MaxInt, "\x7f\xff\xff\xff\xff\xff\xff\xff", api.ErrRange},
		{math.MinInt, "\x80\x00\x00\x00\x00\x00\x00\x00", api.ErrRange},
		{-1, "\xff\xff\xff\xff\xff\xff\xff\xff", api.ErrRange},
		{-2, "\xff\xff\xff\xff\xff\xff\xff\xfe", api.ErrRange},
		{-258, "\xff\xff\xff\xff\xff\xff\xfe\xfe", api.ErrRange},
	} {
		if l := fields.Numbers(c.n); len(l) != 1 || l[0] != c.want {
			t.Errorf("Numbers(%d) = %x, want %x", c.n, l, c.want)
		}
		want := c.n
		if c.err != api.OK {
			want = 0
		}
		if n, err := fields.Number(c.want); n != want || err != c.err {
			t.Errorf("Number(%x) = %d, %d, want %d, %d", c.want, n, err, want, c.err)
		}
	}
}

// TestNumbersOfLists: each number has its text, in the numbers' order.
func TestNumbersOfLists(t *testing.T) {
	if l := fields.Numbers(); len(l) != 0 {
		t.Errorf("Numbers() = %x", l)
	}
	r := rand.New(rand.NewSource(8))
	for _, size := range []int{0, 1, 2, 3, 100, maxFields, maxFields + 1, 5000} {
		numbers := make([]int, size)
		want := make([]string, size)
		for i := range numbers {
			numbers[i] = int(r.Uint64() >> r.Intn(64))
			want[i] = string(binary.BigEndian.AppendUint64(nil, uint64(numbers[i])))
		}
		if l := fields.Numbers(numbers...); !slices.Equal(l, want) {
			t.Errorf("Numbers of %d numbers = %d texts", size, len(l))
		}
	}
}

// TestNumberOfOtherLengths: whatever the octets are, and no number beside the
// error.
func TestNumberOfOtherLengths(t *testing.T) {
	for size := range 40 {
		for _, o := range []string{"\x00", "\x01", "a", "\x3f", "\x40", "\xff"} {
			want := api.OK
			switch {
			case size < 8:
				want = api.ErrShort
			case size > 8:
				want = api.ErrLong
			case o > "\x3f":
				want = api.ErrRange
			}
			n, err := fields.Number(strings.Repeat(o, size))
			if err != want || err != api.OK && n != 0 {
				t.Errorf("Number of %d times %x = %d, %d, want error %d", size, o, n, err, want)
			}
		}
	}
	if n, err := fields.Number(strings.Repeat("\x00", 1<<20)); n != 0 || err != api.ErrLong {
		t.Errorf("Number of 2^20 octets = %d, %d", n, err)
	}
}

// P5.3

func TestTextsComeBack(t *testing.T) {
	for _, l := range append(edgeLists(), randomLists(500)...) {
		b, err := fields.Write(l...)
		if err != api.OK {
			t.Errorf("Write of %d texts = %d", len(l), err)
		}
		if back, err := fields.Read(b); !slices.Equal(back, l) || err != api.OK {
			t.Errorf("Read(%x..) = %d texts, %d, want %d", start(b), len(back), err, len(l))
		}
	}
}

// TestTheMostTextsComeBack: as many as there may be, all as long as they may.
func TestTheMostTextsComeBack(t *testing.T) {
	l := slices.Repeat([]string{strings.Repeat("x", maxField)}, maxFields)
	b, err := fields.Write(l...)
	if err != api.OK || len(b) != 2+maxFields*(3+maxField) {
		t.Errorf("Write = %d octets, %d", len(b), err)
	}
	if back, err := fields.Read(b); !slices.Equal(back, l) || err != api.OK {
		t.Errorf("Read = %d texts, %d", len(back), err)
	}
}

// TestOctetsComeBack: of all octets that are read the texts' octets are the
// same, so that no list has two forms.
func TestOctetsComeBack(t *testing.T) {
	r := rand.New(rand.NewSource(53))
	many := 0
	for range 20000 {
		b := make([]byte, 2+r.Intn(16))
		for i := range b {
			b[i] = byte(r.Intn(2) * r.Intn(3))
		}
		b[0], b[1] = 0, byte(r.Intn(5))
		l, err := fields.Read(b)
		if err != api.OK {
			continue
		}
		many++
		if back, err := fields.Write(l...); !bytes.Equal(back, b) || err != api.OK {
			t.Errorf("Write(Read(%x)) = %x, %d", b, back, err)
		}
	}
	if many < 100 {
		t.Errorf("only %d of the octets were read", many)
	}
	for _, l := range edgeLists() {
		b := wantWrite(l)
		back, err := fields.Read(b)
		if err != api.OK {
			t.Errorf("Read(%x..) = %d", start(b), err)
		}
		if again, err := fields.Write(back...); !bytes.Equal(again, b) || err != api.OK {
			t.Errorf("Write(Read(%x..)) = %x.., %d", start(b), start(again), err)
		}
	}
}

func TestNumbersComeBack(t *testing.T) {
	numbers := []int{0, maxNumber}
	for bit := range 62 {
		numbers = append(numbers, 1<<bit-1, 1<<bit, maxNumber-1<<bit)
	}
	r := rand.New(rand.NewSource(62))
	for range 1000 {
		numbers = append(numbers, int(r.Uint64()>>2>>r.Intn(62)))
	}
	for i, s := range fields.Numbers(numbers...) {
		if n, err := fields.Number(s); n != numbers[i] || err != api.OK {
			t.Errorf("Number(%x) = %d, %d, want %d", s, n, err, numbers[i])
		}
		if l := fields.Numbers(numbers[i]); len(l) != 1 || l[0] != s {
			t.Errorf("Numbers(%d) = %x, want %x", numbers[i], l, s)
		}
	}
}

// TestNumbersAsTexts: they go through octets as other texts do.
func TestNumbersAsTexts(t *testing.T) {
	b, err := fields.Write(fields.Numbers(7, 0, maxNumber)...)
	if err != api.OK || len(b) != 2+3*(3+8) {
		t.Errorf("Write of numbers = %x, %d", b, err)
	}
	l, err := fields.Read(b)
	if err != api.OK || len(l) != 3 {
		t.Fatalf("Read(%x) = %x, %d", b, l, err)
	}
	for i, want := range []int{7, 0, maxNumber} {
		if n, err := fields.Number(l[i]); n != want || err != api.OK {
			t.Errorf("Number(%x) = %d, %d, want %d", l[i], n, err, want)
		}
	}
}

// P5.4

func TestWhatIsHandedInStays(t *testing.T) {
	for _, l := range append(edgeLists(), slices.Repeat([]string{"x"}, maxFields+1)) {
		texts, whole := spare(l, "behind")
		before := slices.Clone(whole)
		fields.Write(texts...)
		if !slices.Equal(whole, before) {
			t.Errorf("Write changed its %d texts", len(l))
		}
	}
	for _, l := range append(edgeLists(), randomLists(50)...) {
		whole := wantWrite(l)
		for _, piece := range [][]byte{whole, whole[:1], whole[:len(whole)-1], slices.Concat(whole, whole)} {
			b, all := spare(piece, 0xee)
			before := string(all)
			fields.Read(b)
			if string(all) != before {
				t.Errorf("Read changed its octets: %x..", start(all))
			}
		}
	}
	for size := range 10 {
		numbers, whole := spare(slices.Repeat([]int{-size}, size), 77)
		before := slices.Clone(whole)
		fields.Numbers(numbers...)
		if !slices.Equal(whole, before) {
			t.Errorf("Numbers changed its numbers: %d", whole)
		}
	}
}

func TestAnswersShareNothingWithArguments(t *testing.T) {
	for _, l := range append(edgeLists(), randomLists(50)...) {
		b, whole := spare(wantWrite(l), 0xee)
		back, _ := fields.Read(b)
		fill(whole, 'x')
		if !slices.Equal(back, l) {
			t.Errorf("Read of %d texts shares its octets", len(l))
		}
		texts, all := spare(l, "behind")
		written, _ := fields.Write(texts...)
		fill(written, 'x')
		if !slices.Equal(texts, l) {
			t.Errorf("Write of %d texts hands them out", len(l))
		}
		written, _ = fields.Write(texts...)
		fill(all, "other")
		if !bytes.Equal(written, wantWrite(l)) {
			t.Errorf("Write of %d texts shares them", len(l))
		}
	}
	numbers := []int{1, 2, 3}
	l := fields.Numbers(numbers...)
	fill(numbers, 9)
	if want := fields.Numbers(1, 2, 3); !slices.Equal(l, want) {
		t.Errorf("Numbers shares its numbers: %x", l)
	}
}

// TestAnswersShareNothingWithEachOther: room behind an answer is its own too.
func TestAnswersShareNothingWithEachOther(t *testing.T) {
	for _, l := range append(edgeLists(), randomLists(50)...) {
		want := wantWrite(l)
		one, _ := fields.Write(l...)
		two, _ := fields.Write(l...)
		fill(one, 'x')
		three, _ := fields.Write(l...)
		if !bytes.Equal(two, want) || !bytes.Equal(three, want) {
			t.Errorf("two answers of Write of %d texts share memory", len(l))
		}
		first, _ := fields.Read(want)
		second, _ := fields.Read(want)
		fill(first, "other")
		third, _ := fields.Read(want)
		if !slices.Equal(second, l) || !slices.Equal(third, l) {
			t.Errorf("two answers of Read of %d texts share memory", len(l))
		}
	}
	one, two := fields.Numbers(1, 2), fields.Numbers(1, 2)
	want := slices.Clone(two)
	fill(one, "other")
	if !slices.Equal(two, want) || !slices.Equal(fields.Numbers(1, 2), want) {
		t.Errorf("two answers of Numbers share memory")
	}
}

// TestNothingIsKept: what was asked ahead of a call is not to be seen in it.
func TestNothingIsKept(t *testing.T) {
	lists := append(edgeLists(), randomLists(100)...)
	for i := len(lists) - 1; i >= 0; i-- {
		fields.Write(make([]string, maxFields+1)...)
		fields.Read([]byte("\x00\x02\x00\x00\x01a\xff\xff\xff"))
		fields.Number("short")
		fields.Numbers(1, 2, 3)
		b, err := fields.Write(lists[i]...)
		if !bytes.Equal(b, wantWrite(lists[i])) || err != api.OK {
			t.Errorf("Write of %d texts = %x.., %d", len(lists[i]), start(b), err)
		}
		fields.Read([]byte("\x00\x02\x00\x00\x01a\x00\x00\x05b"))
		mustRead(t, b)
	}
}
