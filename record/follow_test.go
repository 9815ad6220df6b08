package record_test

import (
	"bytes"
	"fmt"
	"math/rand"
	"reflect"
	"slices"
	"strings"
	"testing"

	"godown/api"
	"godown/record"
)

// P19.2 and P19.3: what comes back, and what is told of a beginning

// TestTheRecords: they are what the other tests take them for.
func TestTheRecords(t *testing.T) {
	for _, r := range good() {
		if wantCheck(r) != api.OK {
			t.Errorf("%s may not be", brief(r))
		}
	}
	for _, r := range slices.Concat(bad(), mixed()) {
		if wantCheck(r) != api.ErrState {
			t.Errorf("%s: %d", brief(r), wantCheck(r))
		}
	}
	r := rand.New(rand.NewSource(191))
	met := [5]int{}
	for range 400 {
		x := someRecord(r)
		if met[x.Kind]++; wantCheck(x) != api.OK {
			t.Fatalf("%s: by chance, and may not be", brief(x))
		}
	}
	if slices.Min(met[1:]) < 50 || met[0] > 0 {
		t.Errorf("kinds by chance: %v", met)
	}
}

// tails: what may stand behind a record.
func tails() [][]byte {
	out := [][]byte{nil, {0}, {1}, {2}, {3}, {4}, {5}, {255}, {0, 0, 0, 0}, make([]byte, 100), bytes.Repeat([]byte{255}, 100)}
	for _, r := range ofEachKind() {
		b := octetsOf(r)
		out = append(out, b, b[:1], b[:2], b[:3], b[:len(b)-1], b[1:], append(slices.Clone(b), b...))
	}
	return append(out, octetsOf(bad()[0]), written(1), written(9, "a"))
}

// mustComeBack: the record, whatever stands behind its octets; and they.
func mustComeBack(t *testing.T, r api.Record, tails ...[]byte) {
	t.Helper()
	b, err := record.Encode(r)
	if err != api.OK {
		t.Fatalf("Encode of %s: %d", brief(r), err)
	}
	for _, tail := range tails {
		got, n, err := record.Parse(append(slices.Clone(b), tail...))
		if err != api.OK || n != len(b) || !one(got, r) || !record.Same(got, r) {
			t.Fatalf("%s, behind it %x: %d, %d octets of %d, %s", brief(r), tail, err, n, len(b), brief(got))
		}
		if again, err := record.Encode(got); err != api.OK || !bytes.Equal(again, b) {
			t.Fatalf("%s: octets do not come back: %d, %x, %x", brief(r), err, again, b)
		}
	}
}

// TestRecordsComeBack: P19.2.
func TestRecordsComeBack(t *testing.T) {
	for _, r := range good() {
		mustComeBack(t, r, tails()...)
	}
	r := rand.New(rand.NewSource(192))
	for range 3000 {
		tail := []byte(someText(r, r.Intn(20), 0, 255))
		mustComeBack(t, someRecord(r), nil, tail, octetsOf(someRecord(r)))
	}
}

// TestEachIndexComesBack: and each run from it on to the end.
func TestEachIndexComesBack(t *testing.T) {
	for i := range maxIndex {
		mustComeBack(t, api.Record{Kind: 2, Index: i, Data: fmt.Sprintf("data of %08d", i)}, nil, []byte{2})
		for _, n := range []int{1, maxIndex/2 - i/2, maxIndex - i - 1, maxIndex - i} {
			if n > 0 {
				mustComeBack(t, api.Record{Kind: 3, Index: i, Count: n}, nil, []byte{3})
			}
		}
		mustRefuse(t, "one too many", check(api.Record{Kind: 3, Index: i, Count: maxIndex - i + 1}), api.ErrState)
		mustRefuse(t, "none", check(api.Record{Kind: 3, Index: i}), api.ErrState)
	}
}

// TestEachOctetIsANames: or not, as a Name, a property's Name, and in a Value.
func TestEachOctetIsANames(t *testing.T) {
	for c := range 256 {
		s := string([]byte{byte(c)})
		for _, text := range []string{s, "a" + s, s + "a", "ab" + s + "cd", longestName[1:] + s} {
			for _, r := range []api.Record{
				{Kind: 1, Name: text, Guid: 1}, {Kind: 1, Name: "a", Guid: 1, Own: []api.Prop{{Name: text}}}, {Kind: 1, Name: "a", Guid: 1, Own: []api.Prop{{Name: "a", Value: text}}},
			} {
				mustAnswer(t, "each octet", check(r))
				mustAnswer(t, "each octet", encode(r))
				mustAnswer(t, "each octet", parse(octetsOf(r)))
			}
		}
		mustComeBack(t, api.Record{Kind: 2, Index: c, Data: strings.Repeat(s, 16)}, nil, []byte(s))
	}
}

// TestBeginnings: P19.3, of each record.
func TestBeginnings(t *testing.T) {
	for _, r := range good() {
		b := octetsOf(r)
		for n := range b {
			mustRefuse(t, "a beginning", parse(b[:n]), api.ErrShort)
		}
	}
	r := rand.New(rand.NewSource(193))
	for range 300 {
		b, err := record.Encode(someRecord(r))
		if err != api.OK {
			t.Fatal(err)
		}
		for n := range b {
			if got, size, err := record.Parse(b[:n]); err != api.ErrShort || size != 0 || !one(got, api.Record{}) {
				t.Fatalf("%d octets of %x: %d, %d, %s", n, b, err, size, brief(got))
			}
		}
	}
}

// TestOneByOne: records behind each other come back, in their order.
func TestOneByOne(t *testing.T) {
	r := rand.New(rand.NewSource(194))
	for range 60 {
		var l []api.Record
		var b []byte
		for range r.Intn(30) {
			x := someRecord(r)
			one, err := record.Encode(x)
			if err != api.OK {
				t.Fatal(err)
			}
			l, b = append(l, x), append(b, one...)
		}
		for i, x := range l {
			got, n, err := record.Parse(b)
			if err != api.OK || !one(got, x) {
				t.Fatalf("record %d: %d, %s, want %s", i, err, brief(got), brief(x))
			}
			b = b[n:]
		}
		mustRefuse(t, "behind all", parse(b), api.ErrShort)
	}
}

// mustReturn: what is told of octets has these octets.
func mustReturn(t *testing.T, what string, b []byte) api.Errno {
	t.Helper()
	got := mustAnswer(t, what, parse(b))
	if got.Err != api.OK {
		return got.Err
	}
	again, err := record.Encode(got.Record)
	if err != api.OK || !bytes.Equal(again, b[:got.Size]) {
		t.Fatalf("%s, Parse of %x: %s, whose octets are %x", what, b, brief(got.Record), again)
	}
	return api.OK
}

// TestEachChangedOctet: each octet of a record of each kind, as each other one.
func TestEachChangedOctet(t *testing.T) {
	met := map[api.Errno]int{}
	for _, r := range append(ofEachKind(), api.Record{Kind: 1, Name: "a", Guid: 1}) {
		b := octetsOf(r)
		for i := range b {
			for c := range 256 {
				x := slices.Clone(b)
				x[i] = byte(c)
				met[mustReturn(t, "one is changed", x)]++
			}
		}
	}
	for _, err := range []api.Errno{api.OK, api.ErrKind, api.ErrShort, api.ErrSyntax, api.ErrState} {
		if met[err] < 100 {
			t.Errorf("%d was answered just %d times", err, met[err])
		}
	}
}

// TestOctetsMoreOrLess: one or more that go, or come in, anywhere; the head
// counts them, or as many as there were.
func TestOctetsMoreOrLess(t *testing.T) {
	met := map[api.Errno]int{}
	for _, r := range append(ofEachKind(), api.Record{Kind: 1, Name: longestName, Guid: maxAmount, Own: fullOwn(8)}) {
		b := octetsOf(r)
		for i := 3; i <= len(b); i++ {
			for _, n := range []int{1, 2, 8, 11, 19} {
				if i+n <= len(b) {
					less := slices.Delete(slices.Clone(b), i, i+n)
					met[mustReturn(t, "less", less)]++
					met[mustReturn(t, "less, counted", behind(r.Kind, less[3:]))]++
				}
				for _, c := range []byte{0, 'a', 255} {
					more := slices.Insert(slices.Clone(b), i, bytes.Repeat([]byte{c}, n)...)
					met[mustReturn(t, "more", more)]++
					met[mustReturn(t, "more, counted", behind(r.Kind, more[3:]))]++
				}
			}
		}
	}
	for _, err := range []api.Errno{api.OK, api.ErrShort, api.ErrSyntax, api.ErrState} {
		if met[err] < 4 {
			t.Errorf("%d was answered just %d times", err, met[err])
		}
	}
}

// TestTexts: each list of up to five texts of a few, of each kind.
func TestTexts(t *testing.T) {
	few := []string{"", "a", longestName, number(7), number(1 << 62), strings.Repeat("s", 32)}
	met := map[api.Errno]int{}
	var lists func(l []string)
	lists = func(l []string) {
		for kind := 1; kind <= 4; kind++ {
			met[mustReturn(t, "a list", written(kind, l...))]++
		}
		if len(l) < 5 {
			for _, s := range few {
				lists(append(slices.Clip(l), s))
			}
		}
	}
	lists(nil)
	for _, err := range []api.Errno{api.OK, api.ErrSyntax, api.ErrState} {
		if met[err] < 10 {
			t.Errorf("%d was answered just %d times", err, met[err])
		}
	}
}

// spoil: so many leaves of x are changed, or lists cut, doubled or turned round.
func spoil(r *rand.Rand, x any, times int, numbers []int, texts []string) {
	for range times {
		switch leaf := pick(r, leavesOf(x)); leaf.Kind() {
		case reflect.String:
			leaf.SetString(pick(r, texts))
		case reflect.Int:
			leaf.SetInt(int64(pick(r, numbers)))
		case reflect.Uint64:
			leaf.SetUint(r.Uint64())
		}
		l := pick(r, listsOf(x))
		if l.Len() == 0 {
			continue
		}
		at := r.Intn(l.Len())
		switch r.Intn(8) {
		case 0:
			l.Set(reflect.Append(l, l.Index(at)))
		case 1:
			l.Set(l.Slice(0, at))
		case 2:
			l.Set(l.Slice(at, l.Len()))
		case 3:
			reflect.Swapper(l.Interface())(0, at)
		}
	}
}

// TestAnyRecord: records of which fields are changed by chance: each call
// answers as the words tell it.
func TestAnyRecord(t *testing.T) {
	r := rand.New(rand.NewSource(195))
	numbers := slices.Concat(badNumbers(), noKinds(), []int{0, 1, 2, 3, 4, 15, 16, 17, maxIndex - 1, maxIndex, maxAmount - 1, maxAmount})
	texts := slices.Concat(stock, noNames(), []string{longestName[1:], longestName, strings.Repeat("\xff", 16), strings.Repeat("x", 32), strings.Repeat("x", 33)})
	met := map[api.Errno]int{}
	for range 6000 {
		x := someRecord(r)
		y := deep(x, 0)
		spoil(r, &y, r.Intn(3), numbers, texts)
		met[mustAnswer(t, "anything", check(y)).Err]++
		got := mustAnswer(t, "anything", encode(y))
		mustAnswer(t, "anything", same(x, y))
		mustAnswer(t, "anything", same(y, x))
		mustReturn(t, "anything", octetsOf(y))
		if got.Err == api.OK {
			mustComeBack(t, y, nil, octetsOf(x))
		}
	}
	for _, err := range []api.Errno{api.OK, api.ErrKind, api.ErrState} {
		if met[err] < 200 {
			t.Errorf("%d was answered just %d times", err, met[err])
		}
	}
}

// TestAnyOctets: octets of records that are changed, cut and laid together by
// chance, and octets of no kind: Parse answers as the words tell it.
func TestAnyOctets(t *testing.T) {
	r := rand.New(rand.NewSource(196))
	met := map[api.Errno]int{}
	for range 20000 {
		b := octetsOf(someRecord(r))
		for range r.Intn(4) {
			at := r.Intn(len(b) + 1)
			switch r.Intn(6) {
			case 0:
				b = slices.Insert(b, at, []byte(someText(r, 1+r.Intn(3), 0, 255))...)
			case 1:
				b = slices.Delete(b, at, min(at+1+r.Intn(3), len(b)))
			case 2:
				b = append(b[:at:at], octetsOf(someRecord(r))...)
			case 3:
				b = b[:at]
			default:
				if at < len(b) {
					b[at] = byte(pick(r, []int{0, 1, 2, 3, 4, 5, 8, 9, 16, 32, 127, 128, 255}))
				}
			}
		}
		if len(b) > 3 && r.Intn(2) == 0 {
			b = append(behind(int(b[0]), b[3:]), make([]byte, r.Intn(3))...)
		}
		met[mustReturn(t, "any octets", b)]++
	}
	for range 20000 {
		b := []byte(someText(r, r.Intn(60), 0, pick(r, []int{1, 4, 16, 255})))
		met[mustReturn(t, "octets by chance", b)]++
	}
	for _, err := range []api.Errno{api.OK, api.ErrKind, api.ErrShort, api.ErrSyntax, api.ErrState} {
		if met[err] < 200 {
			t.Errorf("%d was answered just %d times", err, met[err])
		}
	}
}
