package record_test

import (
	"fmt"
	"math"
	"slices"
	"strings"
	"testing"

	"godown/api"
	"godown/record"
)

// P19.1: Check, Encode, Parse, Same, and the order of errors

// TestExample: the chapter's.
func TestExample(t *testing.T) {
	if r, n, err := record.Parse([]byte{9}); err != api.ErrKind || n != 0 || !one(r, api.Record{}) {
		t.Errorf("Parse of 9: %s, %d, %d", brief(r), n, err)
	}
}

// TestOctets: of a record of each kind, told octet by octet.
func TestOctets(t *testing.T) {
	for _, k := range []struct {
		what   string
		r      api.Record
		octets string
	}{
		{"a begin", aBegin(),
			"\x01\x00\x44" + "\x00\x09" + "\x00\x00\x06monday" + "\x00\x00\x08\x00\x00\x00\x00\x00\x00\x00\x03" + "\x00\x00\x08\x00\x00\x00\x00\x00\x00\x01\x02" +
				"\x00\x00\x05atime" + "\x00\x00\x02on" + "\x00\x00\x06copies" + "\x00\x00\x00" + "\x00\x00\x01x" + "\x00\x00\x03a b"},
		{"a begin without properties", api.Record{Kind: 1, Name: "a", Guid: maxAmount},
			"\x01\x00\x1c" + "\x00\x03" + "\x00\x00\x01a" + "\x00\x00\x08\x00\x00\x00\x00\x00\x00\x00\x00" + "\x00\x00\x08\x00\x00\x01\x00\x00\x00\x00\x00"},
		{"a write", aWrite(),
			"\x02\x00\x20" + "\x00\x02" + "\x00\x00\x08\x00\x00\x00\x00\x00\x00\x02\x03" + "\x00\x00\x100123456789abcdef"},
		{"a free", aFree(),
			"\x03\x00\x18" + "\x00\x02" + "\x00\x00\x08\x00\x00\x00\x00\x00\x00\x01\x02" + "\x00\x00\x08\x00\x00\x00\x00\x00\x00\x00\x07"},
		{"an end", anEnd(),
			"\x04\x00\x25" + "\x00\x01" + "\x00\x00\x20" + "\x00\x00\x00\x00\x00\x00\x00\x01" + "\x00\x00\x00\x00\x00\x00\x00\x02" + "\x00\x00\x00\x03\x00\x00\x00\x00" + "\xff\xff\xff\xff\xff\xff\xff\xfc"},
		{"an end of zero", api.Record{Kind: 4},
			"\x04\x00\x25" + "\x00\x01" + "\x00\x00\x20" + strings.Repeat("\x00", 32)},
	} {
		mustMay(t, k.what, k.r, []byte(k.octets))
		mustBe(t, k.what+", behind it another one", parse([]byte(k.octets+"\x04\x00\x25\x00")), reply{Record: k.r, Size: len(k.octets)})
	}
}

// TestTheGreatest: a begin with all that one may have.
func TestTheGreatest(t *testing.T) {
	r := api.Record{Kind: 1, Name: longestName, From: maxAmount, Guid: maxAmount, Own: fullOwn(8)}
	mustMay(t, "the greatest begin", r, octetsOf(r))
	if n := len(octetsOf(r)); n != 3+2+19+11+11+8*(19+35) {
		t.Errorf("the greatest begin has %d octets", n)
	}
}

// TestRecordsThatMayBe: each has octets, and is read of them.
func TestRecordsThatMayBe(t *testing.T) {
	for _, r := range good() {
		mustMay(t, "good", r, octetsOf(r))
	}
}

// TestRecordsThatMayNotBe: they have no octets; of those that they would have,
// ErrState is told, if they are such as are read at all.
func TestRecordsThatMayNotBe(t *testing.T) {
	read := 0
	for _, r := range bad() {
		mustNotMay(t, "bad", r, api.ErrState)
		b := octetsOf(r)
		if min(r.From, r.Guid, r.Index, r.Count) < 0 || max(r.From, r.Guid, r.Index, r.Count) > maxNumber {
			mustRefuse(t, "a number that is not read", parse(b), api.ErrSyntax)
			continue
		}
		read++
		mustRefuse(t, "bad", parse(b), api.ErrState)
		mustRefuse(t, "bad, and one behind it", parse(append(b, octetsOf(aFree())...)), api.ErrState)
	}
	if read < 200 {
		t.Errorf("just %d are read", read)
	}
}

// TestFieldsOfOtherKinds: one that is not zero, whatever is in it.
func TestFieldsOfOtherKinds(t *testing.T) {
	for _, r := range mixed() {
		mustNotMay(t, "a field of another kind", r, api.ErrState)
	}
	for _, f := range everyField() {
		for _, put := range f.put {
			for kind := 1; kind <= 4; kind++ {
				mustAnswer(t, f.name, check(onto(api.Record{Kind: kind}, put)))
				mustAnswer(t, f.name, encode(onto(api.Record{Kind: kind}, put)))
			}
		}
	}
	for _, r := range ofEachKind() {
		for kind := range 6 {
			if kind == r.Kind {
				continue
			}
			err := api.ErrState
			if kind == 0 || kind == 5 {
				err = api.ErrKind
			}
			mustNotMay(t, "of another kind", onto(r, func(r *api.Record) { r.Kind = kind }), err)
		}
	}
}

// TestNoKinds: ErrKind goes ahead of whatever else a record has.
func TestNoKinds(t *testing.T) {
	for _, kind := range noKinds() {
		for _, r := range slices.Concat([]api.Record{{}}, ofEachKind(), []api.Record{filled[api.Record](2), {Index: -1}, {Count: -1}, {Name: "@"}, {Data: "x"}, {Own: own("b=", "a=")}}) {
			mustNotMay(t, "no kind", onto(r, func(r *api.Record) { r.Kind = kind }), api.ErrKind)
		}
	}
	for kind := range 256 {
		if 1 <= kind && kind <= 4 {
			continue
		}
		mustRefuse(t, "alone", parse([]byte{byte(kind)}), api.ErrKind)
		mustRefuse(t, "two", parse([]byte{byte(kind), 0}), api.ErrKind)
		mustRefuse(t, "nothing follows", parse([]byte{byte(kind), 0, 0}), api.ErrKind)
		mustRefuse(t, "all is missing that follows", parse([]byte{byte(kind), 255, 255}), api.ErrKind)
		for _, r := range ofEachKind() {
			b := octetsOf(r)
			b[0] = byte(kind)
			mustRefuse(t, "no kind", parse(b), api.ErrKind)
			mustRefuse(t, "no kind, short", parse(b[:len(b)-1]), api.ErrKind)
			mustRefuse(t, "no kind, one ahead", parse(append([]byte{byte(kind)}, octetsOf(r)...)), api.ErrKind)
		}
	}
}

// TestShort: b ends ahead of the record's end, whatever there is of it.
func TestShort(t *testing.T) {
	mustRefuse(t, "nil", parse(nil), api.ErrShort)
	mustRefuse(t, "none", parse([]byte{}), api.ErrShort)
	for kind := 1; kind <= 4; kind++ {
		mustRefuse(t, "a kind", parse([]byte{byte(kind)}), api.ErrShort)
		for size := range 256 {
			mustRefuse(t, "two octets", parse([]byte{byte(kind), byte(size)}), api.ErrShort)
		}
		for _, size := range []int{1, 2, 3, 37, 255, 256, 257, 4095, 4096, 65534, 65535} {
			b := behind(kind, make([]byte, size))
			for _, n := range []int{3, 4, 5, 3 + size/2, 2 + size} {
				if n < 3+size {
					mustRefuse(t, "zeros, short", parse(b[:n]), api.ErrShort)
				}
			}
			mustAnswer(t, "zeros", parse(b))
			if mustAnswer(t, "zeros, more behind", parse(append(b, 0))).Err == api.ErrShort {
				t.Errorf("%d of %d: short", kind, size)
			}
		}
	}
}

// noBodies: what follows the head of no record of that kind.
func noBodies(kind int) map[string][]byte {
	a, n, data, sum := longestName, number(7), "0123456789abcdef", strings.Repeat("s", 32)
	out := map[string][]byte{
		"nothing": {}, "one octet": {0}, "one octet, 1": {1}, "no texts": {0, 0}, "no texts, more behind": {0, 0, 0},
		"a text that is not there": {0, 1}, "half a length": {0, 1, 0, 0}, "a text too short": {0, 1, 0, 0, 5, 'a'},
		"a length of 2^16 and 1": append([]byte{0, 1, 1, 0, 1}, make([]byte, 65000)...), "a length of 2^24 - 1": {0, 1, 255, 255, 255, 'a'},
		"1025 texts": body(make([]string, 1025)...), "2^16 - 1 texts": body(make([]string, 1<<16-1)...)[:65000], "1024 texts": body(make([]string, 1024)...),
		"no text": body(), "one empty text": body(""), "two empty texts": body("", ""), "three empty texts": body("", "", ""),
	}
	// Of each kind what another one has, one less and one more, and a text of
	// another length.
	for what, l := range map[string][]string{
		"a name": {a}, "a number": {n}, "a sum": {sum}, "name, number": {a, n}, "number, number": {n, n}, "number, Data": {n, data}, "Data, number": {data, n},
		"name, two numbers": {a, n, n}, "three numbers": {n, n, n}, "name, two numbers, name": {a, n, n, a}, "name, two numbers, three": {a, n, n, a, a, a}, "two sums": {sum, sum},
		"number, Data, number": {n, data, n}, "Data, number, number": {data, n, n}, "empty, number, number": {"", n, n}, "number, number, empty": {n, n, ""},
		"sum, empty": {sum, ""}, "sum of 31": {sum[1:]}, "sum of 33": {sum + "s"}, "sum of 0": {""}, "sum of 64": {sum + sum},
		"name, number of 7, number": {a, n[1:], n}, "name, number, number of 7": {a, n, n[1:]}, "name, number of 9, number": {a, "\x00" + n, n}, "name, number, number of 9": {a, n, "\x00" + n},
		"number of 7, Data": {n[1:], data}, "number of 9, Data": {"\x00" + n, data}, "number of 7, number": {n[1:], n}, "number, number of 7": {n, n[1:]}, "number of 9, number": {"\x00" + n, n}, "number, number of 9": {n, n + "\x00"},
		"name, great, number": {a, number(1 << 62), n}, "name, number, great": {a, n, number(1 << 62)}, "name, minus, number": {a, number(-1), n}, "name, number, minus": {a, n, number(math.MinInt)},
		"great, Data": {number(1 << 62), data}, "minus, Data": {number(-1), data}, "great, number": {number(1 << 62), n}, "number, great": {n, number(1 << 62)}, "minus, number": {number(-7), n}, "number, minus": {n, number(-1)},
	} {
		b := body(l...)
		if r, is := wantFields(kind, l); !is {
			out[what] = b
			out[what+", the last octet gone"] = b[:len(b)-1]
		} else if wantCheck(r) == api.OK {
			out[what+", more behind"] = append(slices.Clone(b), 0)
			out[what+", a text more than there is"] = append([]byte{0, byte(len(l) + 1)}, b[2:]...)
			out[what+", a text less than there is"] = append([]byte{0, byte(len(l) - 1)}, b[2:]...)
			out[what+", the last octet gone"] = b[:len(b)-1]
			out[what+", the first octet gone"] = b[1:]
			out[what+", 256 texts"] = append([]byte{1, byte(len(l))}, b[2:]...)
		}
	}
	return out
}

// TestSyntax: what follows is no record's, as far as the head counts; what
// stands behind that does not matter.
func TestSyntax(t *testing.T) {
	for kind := 1; kind <= 4; kind++ {
		met := 0
		for what, follow := range noBodies(kind) {
			met++
			what := fmt.Sprintf("%d, %s", kind, what)
			mustRefuse(t, what, parse(behind(kind, follow)), api.ErrSyntax)
			mustRefuse(t, what+", zeros behind", parse(append(behind(kind, follow), make([]byte, 40)...)), api.ErrSyntax)
			mustRefuse(t, what+", a record behind", parse(append(behind(kind, follow), octetsOf(aWrite())...)), api.ErrSyntax)
			if len(follow) > 0 {
				mustRefuse(t, what+", short", parse(behind(kind, follow)[:2+len(follow)]), api.ErrShort)
			}
		}
		if met < 50 {
			t.Errorf("%d: just %d are no record's", kind, met)
		}
	}
}

// TestSyntaxGoesAhead: of what might not be, too, wherever that stands.
func TestSyntaxGoesAhead(t *testing.T) {
	n, great, long := number(7), number(1<<62), strings.Repeat("d", 17)
	for what, b := range map[string][]byte{
		"Name and From":        written(1, "@", great, n),
		"Name and Guid":        written(1, "@", n, great),
		"From and Guid":        written(1, "a", number(maxAmount+1), great),
		"Guid and From":        written(1, "a", great, number(0)),
		"Name, no Guid":        written(1, "@", n),
		"Name, half an Own":    written(1, "@", n, n, "a"),
		"Guid, half an Own":    written(1, "a", n, number(0), "a", "", "b"),
		"a half that is none":  written(1, "a", n, n, "@"),
		"falling, and a half":  written(1, "a", n, n, "b", "", "a", "", "c"),
		"9 and a half":         written(1, append([]string{"a", n, n}, slices.Repeat([]string{"a"}, 19)...)...),
		"an Own, and From":     written(1, "a", great, n, "b", "", "a", ""),
		"an Own, and Guid":     written(1, "a", n, great, "b", "", "a", ""),
		"more behind a Name":   behind(1, append(body("@", n, n), 0)),
		"Data and Index":       written(2, great, long),
		"Index of 7, Data":     written(2, n[1:], long),
		"Data, and a text":     written(2, n, long, ""),
		"Index, more behind":   behind(2, append(body(number(maxIndex), long[1:]), 0)),
		"Index and Count":      written(3, number(maxIndex), great),
		"Count and Index":      written(3, great, number(0)),
		"Index, and no Count":  written(3, number(maxIndex)),
		"Count, and a text":    written(3, n, number(0), n),
		"Count, more behind":   behind(3, append(body(n, number(0)), 0)),
		"a Count that is half": behind(3, body(n, number(0))[:23]),
	} {
		mustRefuse(t, what, parse(b), api.ErrSyntax)
	}
}

// TestStateBehindSyntax: texts that are a record's, which may not be.
func TestStateBehindSyntax(t *testing.T) {
	n := number(7)
	for what, b := range map[string][]byte{
		"9 properties":        octetsOf(onto(aBegin(), func(r *api.Record) { r.Own = fullOwn(9) })),
		"510 properties":      written(1, append([]string{"a", n, n}, make([]string, 1020)...)...),
		"510, in their order": octetsOf(onto(aBegin(), func(r *api.Record) { r.Own = fullOwn(510) })),
		"all of it empty":     written(1, "", n, n, "", ""),
		"the greatest number": written(1, "a", number(maxNumber), n),
		"a Guid of the same":  written(1, "a", n, number(maxNumber)),
		"a huge Name":         written(1, strings.Repeat("a", 65000), n, n),
		"a huge Value":        written(1, "a", n, n, "a", strings.Repeat("v", 65000)),
		"huge Data":           written(2, n, strings.Repeat("d", 65518)),
		"no Data":             written(2, n, ""),
		"number, number":      written(2, n, n),
		"an Index of it":      written(2, number(maxNumber), longestName),
		"an Index and Count":  written(3, number(maxNumber), number(maxNumber)),
		"a Count of it":       written(3, n, number(maxNumber)),
	} {
		mustRefuse(t, what, parse(b), api.ErrState)
		mustRefuse(t, what+", short", parse(b[:len(b)-1]), api.ErrShort)
		mustRefuse(t, what+", more behind", parse(append(b, 1)), api.ErrState)
	}
}

// TestEachCause: of each two causes at once the error that the chapter names
// first counts.
func TestEachCause(t *testing.T) {
	for first := range 256 {
		for _, b := range [][]byte{
			{byte(first)}, {byte(first), 0}, {byte(first), 0, 0}, {byte(first), 0, 1}, {byte(first), 0, 2, 0}, {byte(first), 0, 2, 0, 0},
			behind(first, body(longestName, number(0), number(0))), behind(first, body(number(0), number(0))), behind(first, body(strings.Repeat("s", 32))), behind(first, body(number(0), longestName)),
		} {
			mustAnswer(t, "each first octet", parse(b))
			mustAnswer(t, "each first octet, short", parse(b[:len(b)-1]))
			mustAnswer(t, "each first octet, more", parse(append(slices.Clip(b), 0)))
		}
	}
	for _, r := range slices.Concat(bad(), mixed()) {
		for _, kind := range []int{-1, 0, 5} {
			mustNotMay(t, "no kind, and may not be", onto(r, func(r *api.Record) { r.Kind = kind }), api.ErrKind)
		}
		b := octetsOf(r)
		mustRefuse(t, "short, and may not be", parse(b[:len(b)-1]), api.ErrShort)
		b[0] = 5
		mustRefuse(t, "no kind, and may not be", parse(b), api.ErrKind)
		mustRefuse(t, "no kind, short, and may not be", parse(b[:len(b)-1]), api.ErrKind)
	}
}

// TestSame: records are one if each field is, whether they may be or not.
func TestSame(t *testing.T) {
	x := filled[api.Record](2)
	mustBe(t, "itself", same(x, x), reply{Is: true})
	mustBe(t, "a copy", same(x, deep(x, 3)), reply{Is: true})
	mustBe(t, "zero", same(api.Record{}, api.Record{}), reply{Is: true})
	for i := range leavesOf(&x) {
		y, z := deep(x, 0), api.Record{Own: make([]api.Prop, 2)}
		leavesOf(&y)[i].SetZero()
		mustBe(t, "a field is zero", same(x, y), reply{})
		mustBe(t, "a field is zero", same(y, x), reply{})
		mustBe(t, "a field is zero", same(y, y), reply{Is: true})
		leavesOf(&z)[i].Set(leavesOf(&x)[i])
		mustBe(t, "one field is not zero", same(z, api.Record{Own: make([]api.Prop, 2)}), reply{})
		mustBe(t, "one field is not zero", same(api.Record{Own: make([]api.Prop, 2)}, z), reply{})
	}
	for _, l := range [][]api.Prop{nil, x.Own[:1], x.Own[1:], {x.Own[1], x.Own[0]}, append(slices.Clip(x.Own), x.Own[0]), append(slices.Clip(x.Own), api.Prop{}), {{Name: x.Own[0].Name, Value: x.Own[1].Value}, {Name: x.Own[1].Name, Value: x.Own[0].Value}}} {
		y := onto(x, func(r *api.Record) { r.Own = l })
		mustBe(t, "another Own", same(x, y), reply{})
		mustBe(t, "another Own", same(y, x), reply{})
	}
	for what, l := range map[string][2]api.Record{
		"a Name's end": {{Name: "ab"}, {Name: "a"}}, "case": {{Name: "a"}, {Name: "A"}}, "Name and Data": {{Name: "a"}, {Data: "a"}}, "Data's end": {{Data: "a\x00"}, {Data: "a"}},
		"From and Guid": {{From: 1, Guid: 2}, {From: 2, Guid: 1}}, "Index and Count": {{Index: 1, Count: 2}, {Index: 2, Count: 1}},
		"A and B": {{Sum: api.Sum{A: 1}}, {Sum: api.Sum{B: 1}}}, "C and D": {{Sum: api.Sum{C: 1}}, {Sum: api.Sum{D: 1}}}, "minus": {{Index: 1}, {Index: -1}}, "a great one": {{Count: 1 << 32}, {}},
		"an empty property": {{Own: []api.Prop{{}}}, {}}, "two empty ones": {{Own: make([]api.Prop, 2)}, {Own: make([]api.Prop, 1)}}, "kinds": {{Kind: 0}, {Kind: 5}},
	} {
		mustBe(t, what, same(l[0], l[1]), reply{})
		mustBe(t, what, same(l[1], l[0]), reply{})
	}
	mustBe(t, "nil and empty", same(api.Record{Own: []api.Prop{}}, api.Record{}), reply{Is: true})
}

// TestSameOfAll: of each two records of the tests.
func TestSameOfAll(t *testing.T) {
	l := slices.Concat(good()[:60], ends()[:20], bad()[:60], mixed()[:60])
	for i, a := range l {
		for j, b := range l {
			got := mustAnswer(t, "all", same(a, deep(b, 1))).Is
			if i == j && !got || got != one(a, b) {
				t.Fatalf("%s and %s: %t", brief(a), brief(b), got)
			}
		}
	}
}
