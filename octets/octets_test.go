package octets_test

import (
	"bytes"
	"math"
	"strings"
	"testing"

	"godown/api"
	"godown/octets"
)

const (
	maxNumber = 1<<62 - 1
	ff        = "\xff\xff\xff\xff\xff\xff\xff\xff"
)

// edgeNumbers: around each power of two, of either sign.
func edgeNumbers() []int {
	l := []int{math.MinInt, math.MaxInt}
	for bit := range 63 {
		p := 1 << bit
		l = append(l, p-1, p, p+1, -p-1, -p, -p+1)
	}
	return l
}

// edgeLists: no octets, and lists of 1 to 9 of several looks.
func edgeLists() [][]byte {
	l := [][]byte{nil, {}}
	for size := 1; size <= 9; size++ {
		rising := make([]byte, size)
		for i := range rising {
			rising[i] = byte(i + 1)
		}
		l = append(l, rising, make([]byte, size), bytes.Repeat([]byte{0xff}, size),
			bytes.Repeat([]byte{0x80}, size), bytes.Repeat([]byte{0x3f}, size))
	}
	return l
}

// allOctets: each octet once.
func allOctets() []byte {
	b := make([]byte, 256)
	for i := range b {
		b[i] = byte(i)
	}
	return b
}

// spare: a copy of text in a list with room behind it, filled, so that an
// append in place shows.
func spare(text string) (list, whole []byte) {
	whole = append([]byte(text), bytes.Repeat([]byte{0xee}, 32)...)
	return whole[:len(text)], whole
}

func fill(b []byte, o byte) {
	b = b[:cap(b)]
	for i := range b {
		b[i] = o
	}
}

// P1.1

func TestPut(t *testing.T) {
	for _, c := range []struct {
		n, size int
		want    string
	}{
		{258, 3, "\x00\x01\x02"},
		{0, 0, ""}, {258, 0, ""}, {-1, 0, ""},
		{0, 1, "\x00"}, {255, 1, "\xff"}, {256, 1, "\x00"}, {258, 1, "\x02"},
		{258, 2, "\x01\x02"}, {0x123456, 2, "\x34\x56"},
		{0x0102030405060708, 7, "\x02\x03\x04\x05\x06\x07\x08"},
		{0x0102030405060708, 8, "\x01\x02\x03\x04\x05\x06\x07\x08"},
		{258, 8, "\x00\x00\x00\x00\x00\x00\x01\x02"},
		{258, -1, ""}, {258, -2, ""}, {258, math.MinInt, ""},
		{258, 9, "\x00\x00\x00\x00\x00\x00\x01\x02"},
		{258, 16, "\x00\x00\x00\x00\x00\x00\x01\x02"},
		{258, math.MaxInt, "\x00\x00\x00\x00\x00\x00\x01\x02"},
		{-1, 1, "\xff"}, {-1, 8, ff}, {-1, 9, ff}, {-2, 2, "\xff\xfe"},
		{-256, 1, "\x00"}, {-256, 2, "\xff\x00"}, {-258, 3, "\xff\xfe\xfe"},
		{math.MinInt, 8, "\x80\x00\x00\x00\x00\x00\x00\x00"},
		{math.MinInt, 7, "\x00\x00\x00\x00\x00\x00\x00"},
		{math.MaxInt, 8, "\x7f\xff\xff\xff\xff\xff\xff\xff"},
		{math.MaxInt, 4, "\xff\xff\xff\xff"},
		{maxNumber, 8, "\x3f\xff\xff\xff\xff\xff\xff\xff"},
		{maxNumber + 1, 8, "\x40\x00\x00\x00\x00\x00\x00\x00"},
	} {
		if b := octets.Put(c.n, c.size); string(b) != c.want {
			t.Errorf("Put(%d, %d) = %x, want %x", c.n, c.size, b, c.want)
		}
	}
}

// TestPutBits asks for each octet by division instead of shifts.
func TestPutBits(t *testing.T) {
	for _, n := range edgeNumbers() {
		for size := -2; size <= 10; size++ {
			b := octets.Put(n, size)
			if want := min(max(size, 0), 8); len(b) != want {
				t.Fatalf("Put(%d, %d) has %d octets, want %d", n, size, len(b), want)
			}
			rest := uint64(n)
			for i := len(b) - 1; i >= 0; i-- {
				if uint64(b[i]) != rest%256 {
					t.Errorf("Put(%d, %d) = %x: octet %d is wrong", n, size, b, i)
				}
				rest /= 256
			}
		}
	}
}

func TestNumber(t *testing.T) {
	for _, c := range []struct {
		b   string
		n   int
		err api.Errno
	}{
		{"", 0, api.ErrShort},
		{"\x00", 0, api.OK}, {"\x07", 7, api.OK}, {"\xff", 255, api.OK}, {"\x80", 128, api.OK},
		{"\x01\x02", 258, api.OK}, {"\x00\x01\x02", 258, api.OK}, {"\x02\x01\x00", 0x020100, api.OK},
		{"\xff\xff\xff\xff", 1<<32 - 1, api.OK},
		{ff[:7], 1<<56 - 1, api.OK},
		{"\x01\x02\x03\x04\x05\x06\x07\x08", 0x0102030405060708, api.OK},
		{"\x00\x00\x00\x00\x00\x00\x00\x00", 0, api.OK},
		{"\x3f\xff\xff\xff\xff\xff\xff\xff", maxNumber, api.OK},
		{"\x40\x00\x00\x00\x00\x00\x00\x00", 0, api.ErrRange},
		{"\x40\x00\x00\x00\x00\x00\x00\x01", 0, api.ErrRange},
		{"\x7f\xff\xff\xff\xff\xff\xff\xff", 0, api.ErrRange},
		{"\x80\x00\x00\x00\x00\x00\x00\x00", 0, api.ErrRange},
		{ff, 0, api.ErrRange},
		{"\x00\x00\x00\x00\x00\x00\x00\x00\x00", 0, api.ErrLong},
		{"\x00\x00\x00\x00\x00\x00\x00\x00\x07", 0, api.ErrLong},
		{ff + "\xff", 0, api.ErrLong},
		{strings.Repeat(ff, 100), 0, api.ErrLong},
	} {
		if n, err := octets.Number([]byte(c.b)); n != c.n || err != c.err {
			t.Errorf("Number(%x) = %d, %d, want %d, %d", c.b, n, err, c.n, c.err)
		}
	}
	if n, err := octets.Number(nil); n != 0 || err != api.ErrShort {
		t.Errorf("Number(nil) = %d, %d", n, err)
	}
}

// P1.2

func TestCut(t *testing.T) {
	for _, c := range []struct {
		b           string
		n           int
		first, rest string
		err         api.Errno
	}{
		{"abc", 0, "", "abc", api.OK}, {"abc", 1, "a", "bc", api.OK},
		{"abc", 2, "ab", "c", api.OK}, {"abc", 3, "abc", "", api.OK},
		{"abc", 4, "", "", api.ErrShort}, {"abc", math.MaxInt, "", "", api.ErrShort},
		{"abc", -1, "", "", api.ErrRange}, {"abc", math.MinInt, "", "", api.ErrRange},
		{"", 0, "", "", api.OK}, {"", 1, "", "", api.ErrShort}, {"", -1, "", "", api.ErrRange},
		{"\x00\xff\x00", 1, "\x00", "\xff\x00", api.OK},
	} {
		first, rest, err := octets.Cut([]byte(c.b), c.n)
		if string(first) != c.first || string(rest) != c.rest || err != c.err {
			t.Errorf("Cut(%q, %d) = %q, %q, %d, want %q, %q, %d", c.b, c.n, first, rest, err, c.first, c.rest, c.err)
		}
	}
	for n, want := range map[int]api.Errno{0: api.OK, 1: api.ErrShort, -1: api.ErrRange} {
		if first, rest, err := octets.Cut(nil, n); len(first) != 0 || len(rest) != 0 || err != want {
			t.Errorf("Cut(nil, %d) = %q, %q, %d, want error %d", n, first, rest, err, want)
		}
	}
}

// TestCutBehindTheEnd: room behind a list is not of the list.
func TestCutBehindTheEnd(t *testing.T) {
	b, _ := spare("abc")
	if first, rest, err := octets.Cut(b, 4); len(first) != 0 || len(rest) != 0 || err != api.ErrShort {
		t.Errorf("Cut behind the end = %q, %q, %d", first, rest, err)
	}
}

func TestJoin(t *testing.T) {
	for _, c := range []struct {
		l    [][]byte
		want string
	}{
		{nil, ""}, {[][]byte{}, ""}, {[][]byte{nil}, ""}, {[][]byte{{}}, ""}, {[][]byte{nil, {}, nil}, ""},
		{[][]byte{[]byte("ab")}, "ab"},
		{[][]byte{[]byte("ab"), []byte("c")}, "abc"},
		{[][]byte{[]byte("c"), []byte("ab")}, "cab"},
		{[][]byte{nil, []byte("ab"), {}, []byte("c"), nil}, "abc"},
		{[][]byte{{0}, {0, 255}, {0}}, "\x00\x00\xff\x00"},
		{[][]byte{[]byte("ab"), []byte("ab"), []byte("ab")}, "ababab"},
	} {
		if b := octets.Join(c.l...); string(b) != c.want {
			t.Errorf("Join(%q) = %q, want %q", c.l, b, c.want)
		}
	}
	if b := octets.Join(); len(b) != 0 {
		t.Errorf("Join() = %q", b)
	}
	one := []byte("xy")
	if b := octets.Join(one, one); string(b) != "xyxy" {
		t.Errorf("Join of one list twice = %q", b)
	}
}

func TestHex(t *testing.T) {
	for _, c := range []struct{ b, want string }{
		{"", ""}, {"\x00", "00"}, {"\x01", "01"}, {"\x09\x0a\x0f", "090a0f"}, {"\x10\x9f\xf0", "109ff0"},
		{"\xab\xcd\xef", "abcdef"}, {"\xff", "ff"}, {"az", "617a"},
	} {
		if s := octets.Hex([]byte(c.b)); s != c.want {
			t.Errorf("Hex(%x) = %q, want %q", c.b, s, c.want)
		}
	}
	if s := octets.Hex(nil); s != "" {
		t.Errorf("Hex(nil) = %q", s)
	}
}

func TestUnhex(t *testing.T) {
	for _, c := range []struct {
		s, want string
		err     api.Errno
	}{
		{"", "", api.OK}, {"00", "\x00", api.OK}, {"0123456789abcdef", "\x01\x23\x45\x67\x89\xab\xcd\xef", api.OK},
		{"ff00", "\xff\x00", api.OK}, {"a9", "\xa9", api.OK},
		{"0", "", api.ErrShort}, {"abc", "", api.ErrShort}, {"z", "", api.ErrShort},
		{"zz0", "", api.ErrShort}, {"AB0", "", api.ErrShort}, {"é0", "", api.ErrShort},
		{"AB", "", api.ErrSyntax}, {"aB", "", api.ErrSyntax}, {"Ab", "", api.ErrSyntax}, {"FF", "", api.ErrSyntax},
		{"0g", "", api.ErrSyntax}, {"g0", "", api.ErrSyntax}, {"0x", "", api.ErrSyntax}, {" 0", "", api.ErrSyntax},
		{"0\n", "", api.ErrSyntax}, {"00zz", "", api.ErrSyntax}, {"zz00", "", api.ErrSyntax}, {"00 0", "", api.ErrSyntax},
		{"\x00\x00", "", api.ErrSyntax}, {"-1", "", api.ErrSyntax}, {"é", "", api.ErrSyntax}, {"\xff\xff", "", api.ErrSyntax},
	} {
		if b, err := octets.Unhex(c.s); string(b) != c.want || err != c.err {
			t.Errorf("Unhex(%q) = %x, %d, want %x, %d", c.s, b, err, c.want, c.err)
		}
	}
}

// TestUnhexEachOctet: the 16 digits are read, at either place; no other octet is.
func TestUnhexEachOctet(t *testing.T) {
	const digits = "0123456789abcdef"
	for _, o := range allOctets() {
		v := strings.IndexByte(digits, o)
		for _, s := range []string{string([]byte{o, '0'}), string([]byte{'0', o})} {
			b, err := octets.Unhex(s)
			if v < 0 {
				if len(b) != 0 || err != api.ErrSyntax {
					t.Errorf("Unhex(%q) = %x, %d, want ErrSyntax", s, b, err)
				}
				continue
			}
			want := byte(v)
			if s[1] == '0' {
				want *= 16
			}
			if err != api.OK || len(b) != 1 || b[0] != want {
				t.Errorf("Unhex(%q) = %x, %d, want %x", s, b, err, want)
			}
		}
	}
}

// P1.3

func TestNumbersComeBack(t *testing.T) {
	for _, n := range edgeNumbers() {
		for size := 1; size <= 8; size++ {
			got, err := octets.Number(octets.Put(n, size))
			want := uint64(n)
			if size < 8 {
				want %= 1 << (8 * size)
			}
			if want > maxNumber {
				if got != 0 || err != api.ErrRange {
					t.Errorf("Number(Put(%d, %d)) = %d, %d, want ErrRange", n, size, got, err)
				}
			} else if got != int(want) || err != api.OK {
				t.Errorf("Number(Put(%d, %d)) = %d, %d, want %d", n, size, got, err, want)
			}
		}
		if got, err := octets.Number(octets.Put(n, 0)); got != 0 || err != api.ErrShort {
			t.Errorf("Number(Put(%d, 0)) = %d, %d, want ErrShort", n, got, err)
		}
	}
}

func TestNumbersOctetsComeBack(t *testing.T) {
	for _, b := range edgeLists() {
		if n, err := octets.Number(b); err == api.OK {
			if back := octets.Put(n, len(b)); !bytes.Equal(back, b) {
				t.Errorf("Put(Number(%x)) = %x", b, back)
			}
		}
	}
}

func TestHexComesBack(t *testing.T) {
	for _, b := range append(edgeLists(), allOctets()) {
		back, err := octets.Unhex(octets.Hex(b))
		if err != api.OK || !bytes.Equal(back, b) {
			t.Errorf("Unhex(Hex(%x)) = %x, %d", b, back, err)
		}
	}
	for _, s := range []string{"", "00", "0123456789abcdef", "ff00ff"} {
		if b, _ := octets.Unhex(s); octets.Hex(b) != s {
			t.Errorf("Hex(Unhex(%q)) = %q", s, octets.Hex(b))
		}
	}
}

func TestCutComesBack(t *testing.T) {
	for _, b := range edgeLists() {
		for n := range len(b) + 1 {
			first, rest, err := octets.Cut(b, n)
			if err != api.OK || len(first) != n || !bytes.Equal(octets.Join(first, rest), b) {
				t.Errorf("Join(Cut(%x, %d)) = %x, %x, %d", b, n, first, rest, err)
			}
		}
	}
}

// P1.4

func TestWhatIsHandedInStays(t *testing.T) {
	const text = "\x01\x02\x03\x04\x05"
	calls := map[string]func(b []byte){
		"Number": func(b []byte) { octets.Number(b) },
		"Hex":    func(b []byte) { octets.Hex(b) },
		"Join":   func(b []byte) { octets.Join(b, []byte("more"), b) },
		"Cut": func(b []byte) {
			for n := -1; n <= len(b)+1; n++ {
				octets.Cut(b, n)
			}
		},
	}
	for name, call := range calls {
		b, whole := spare(text)
		before := string(whole)
		call(b)
		if string(whole) != before {
			t.Errorf("%s changed what it was handed: %x", name, whole)
		}
	}
}

func TestJoinLeavesItsListOfLists(t *testing.T) {
	l := [][]byte{nil, []byte("a"), {}, []byte("b")}
	octets.Join(l...)
	if len(l) != 4 || l[0] != nil || string(l[1]) != "a" || l[2] == nil || len(l[2]) != 0 || string(l[3]) != "b" {
		t.Errorf("Join changed its lists: %q", l)
	}
}

func TestAnswersShareNothingWithArguments(t *testing.T) {
	for n := range 6 {
		b, whole := spare("abcde")
		first, rest, _ := octets.Cut(b, n)
		fill(whole, 'x')
		if string(first) != "abcde"[:n] || string(rest) != "abcde"[n:] {
			t.Errorf("Cut at %d shares its argument: %q, %q", n, first, rest)
		}
		fill(first, 'y')
		fill(rest, 'y')
		if string(whole) != strings.Repeat("x", len(whole)) {
			t.Errorf("Cut at %d hands its argument out: %q", n, whole)
		}
	}
	for _, other := range [][]byte{nil, {}, []byte("z")} {
		for _, l := range [][][]byte{{}, {other}, {other, other}} {
			b, whole := spare("abc")
			joined := octets.Join(append([][]byte{b}, l...)...)
			want := string(joined)
			fill(whole, 'x')
			if string(joined) != want || want[:3] != "abc" {
				t.Errorf("Join shares its argument: %q, was %q", joined, want)
			}
			fill(joined, 'y')
			if string(whole) != strings.Repeat("x", len(whole)) {
				t.Errorf("Join hands its argument out: %q", whole)
			}
		}
	}
	b := []byte("abc")
	text := octets.Hex(b)
	fill(b, 'x')
	if text != "616263" {
		t.Errorf("Hex shares its argument: %q", text)
	}
}

// TestAnswersShareNothingWithEachOther: room behind an answer is its own too.
func TestAnswersShareNothingWithEachOther(t *testing.T) {
	for n := range 6 {
		first, rest, _ := octets.Cut([]byte("abcde"), n)
		fill(first, 'x')
		if string(rest) != "abcde"[n:] {
			t.Errorf("Cut at %d: the first octets share the rest: %q", n, rest)
		}
		first, rest, _ = octets.Cut([]byte("abcde"), n)
		fill(rest, 'x')
		if string(first) != "abcde"[:n] {
			t.Errorf("Cut at %d: the rest shares the first octets: %q", n, first)
		}
	}
	calls := map[string]func() []byte{
		"Put":   func() []byte { return octets.Put(0x616263, 3) },
		"Unhex": func() []byte { b, _ := octets.Unhex("616263"); return b },
		"Join":  func() []byte { return octets.Join([]byte("ab"), []byte("c")) },
	}
	for name, call := range calls {
		one := call()
		two := call()
		fill(one, 'x')
		if string(two) != "abc" || string(call()) != "abc" {
			t.Errorf("two answers of %s share memory", name)
		}
	}
}

// TestErrorsAnswerNothingElse: P4 of the document.
func TestErrorsAnswerNothingElse(t *testing.T) {
	for _, n := range []int{-1, 4} {
		if first, rest, err := octets.Cut([]byte("abc"), n); err == api.OK || len(first) != 0 || len(rest) != 0 {
			t.Errorf("Cut at %d = %q, %q, %d", n, first, rest, err)
		}
	}
	for _, s := range []string{"616", "616g", "6162A3"} {
		if b, err := octets.Unhex(s); err == api.OK || len(b) != 0 {
			t.Errorf("Unhex(%q) = %q, %d", s, b, err)
		}
	}
}
