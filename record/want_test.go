package record_test

import (
	"encoding/binary"
	"fmt"
	"regexp"
	"testing"

	"godown/api"
	"godown/record"
)

// What the chapter's words tell of each call, told without the layers that the
// calls lean on.

// The limits, as the document writes them.
const (
	maxAmount = 1 << 40
	maxIndex  = 1 << 10
	maxProps  = 8
	maxTexts  = 1 << 10
	maxText   = 1 << 16
	maxNumber = 1<<62 - 1
)

var (
	namePattern  = regexp.MustCompile(`\A[a-z0-9_-]{1,16}\z`)
	valuePattern = regexp.MustCompile(`\A[ -~]{0,32}\z`)
)

// given: all that calls are handed.
type given struct {
	R, Other api.Record
	B        []byte
}

// reply: all that a call answers.
type reply struct {
	Record api.Record
	Octets []byte
	Size   int
	Is     bool
	Err    api.Errno
}

// wantCheck: the four kinds, field by field.
func wantCheck(r api.Record) api.Errno {
	noBegin := r.Name == "" && r.From == 0 && r.Guid == 0 && len(r.Own) == 0
	noSum := r.Sum == api.Sum{}
	var may bool
	switch r.Kind {
	case 1:
		may = namePattern.MatchString(r.Name) && 0 <= r.From && r.From <= maxAmount && 1 <= r.Guid && r.Guid <= maxAmount &&
			wantOwn(r.Own) && r.Index == 0 && r.Count == 0 && r.Data == "" && noSum
	case 2:
		may = 0 <= r.Index && r.Index < maxIndex && len(r.Data) == 16 && noBegin && r.Count == 0 && noSum
	case 3:
		may = 0 <= r.Index && r.Index < maxIndex && 1 <= r.Count && r.Count <= maxIndex-r.Index && noBegin && r.Data == "" && noSum
	case 4:
		may = noBegin && r.Index == 0 && r.Count == 0 && r.Data == ""
	default:
		return api.ErrKind
	}
	if !may {
		return api.ErrState
	}
	return api.OK
}

func wantOwn(l []api.Prop) bool {
	for i, p := range l {
		if i == maxProps || !namePattern.MatchString(p.Name) || !valuePattern.MatchString(p.Value) || i > 0 && p.Name <= l[i-1].Name {
			return false
		}
	}
	return true
}

// number: eight octets, the highest first.
func number(n int) string {
	return string(binary.BigEndian.AppendUint64(nil, uint64(n)))
}

// sumText: A, B, C, D.
func sumText(s api.Sum) string {
	return number(int(s.A)) + number(int(s.B)) + number(int(s.C)) + number(int(s.D))
}

// textsOf: the fields of the record's kind, whether it may be or not.
func textsOf(r api.Record) []string {
	switch r.Kind {
	case 1:
		out := []string{r.Name, number(r.From), number(r.Guid)}
		for _, p := range r.Own {
			out = append(out, p.Name, p.Value)
		}
		return out
	case 2:
		return []string{number(r.Index), r.Data}
	case 3:
		return []string{number(r.Index), number(r.Count)}
	case 4:
		return []string{sumText(r.Sum)}
	}
	return nil
}

// body: how many texts there are (2 octets), and of each its length (3) and it.
func body(l ...string) []byte {
	out := binary.BigEndian.AppendUint16(nil, uint16(len(l)))
	for _, s := range l {
		out = append(out, byte(len(s)>>16), byte(len(s)>>8), byte(len(s)))
		out = append(out, s...)
	}
	return out
}

// behind: a kind (1), how many octets follow (2), and those.
func behind(kind int, b []byte) []byte {
	return append(binary.BigEndian.AppendUint16([]byte{byte(kind)}, uint16(len(b))), b...)
}

// written: as a record of that kind is, of any texts.
func written(kind int, l ...string) []byte {
	return behind(kind, body(l...))
}

// octetsOf: the record's, whether it may be or not.
func octetsOf(r api.Record) []byte {
	return written(r.Kind, textsOf(r)...)
}

func wantEncode(r api.Record) reply {
	if err := wantCheck(r); err != api.OK {
		return reply{Err: err}
	}
	return reply{Octets: octetsOf(r)}
}

// wantTexts: those that body wrote; false: it wrote no such octets.
func wantTexts(b []byte) ([]string, bool) {
	if len(b) < 2 {
		return nil, false
	}
	n := int(b[0])*256 + int(b[1])
	b = b[2:]
	var out []string
	for ; n > 0 && len(b) >= 3; n-- {
		size := int(b[0])*65536 + int(b[1])*256 + int(b[2])
		if size > len(b)-3 || size > maxText || len(out) == maxTexts {
			return nil, false
		}
		out, b = append(out, string(b[3:3+size])), b[3+size:]
	}
	return out, n == 0 && len(b) == 0
}

// wantFields: the record of that kind that has these texts, whether it may be
// or not; false: there is none.
func wantFields(kind int, l []string) (api.Record, bool) {
	is := true
	numberOf := func(s string) int {
		if len(s) != 8 || binary.BigEndian.Uint64([]byte(s)) > maxNumber {
			is = false
			return 0
		}
		return int(binary.BigEndian.Uint64([]byte(s)))
	}
	r := api.Record{Kind: kind}
	switch {
	case kind == 1 && len(l) >= 3 && len(l)%2 == 1:
		r.Name, r.From, r.Guid = l[0], numberOf(l[1]), numberOf(l[2])
		for i := 3; i < len(l); i += 2 {
			r.Own = append(r.Own, api.Prop{Name: l[i], Value: l[i+1]})
		}
	case kind == 2 && len(l) == 2:
		r.Index, r.Data = numberOf(l[0]), l[1]
	case kind == 3 && len(l) == 2:
		r.Index, r.Count = numberOf(l[0]), numberOf(l[1])
	case kind == 4 && len(l) == 1 && len(l[0]) == 32:
		part := func(i int) uint64 { return binary.BigEndian.Uint64([]byte(l[0][8*i:])) }
		r.Sum = api.Sum{A: part(0), B: part(1), C: part(2), D: part(3)}
	default:
		return r, false
	}
	return r, is
}

func wantParse(b []byte) reply {
	if len(b) > 0 && (b[0] < 1 || b[0] > 4) {
		return reply{Err: api.ErrKind}
	}
	if len(b) < 3 || len(b) < 3+int(b[1])*256+int(b[2]) {
		return reply{Err: api.ErrShort}
	}
	size := 3 + int(b[1])*256 + int(b[2])
	l, is := wantTexts(b[3:size])
	if !is {
		return reply{Err: api.ErrSyntax}
	}
	r, is := wantFields(int(b[0]), l)
	if !is {
		return reply{Err: api.ErrSyntax}
	}
	if wantCheck(r) != api.OK {
		return reply{Err: api.ErrState}
	}
	return reply{Record: r, Size: size}
}

// wantSame: of what the fields are, one behind the other.
func wantSame(a, b api.Record) bool {
	tell := func(r api.Record) string {
		own := fmt.Sprint(len(r.Own))
		for _, p := range r.Own {
			own += fmt.Sprintf(" %q %q", p.Name, p.Value)
		}
		return fmt.Sprintf("%d %q %d %d %s %d %d %q %x", r.Kind, r.Name, r.From, r.Guid, own, r.Index, r.Count, r.Data, r.Sum)
	}
	return tell(a) == tell(b)
}

// ask: a call with all that it is handed, and what the words tell of it.
type ask struct {
	what string
	x    given
	call func(x given) reply
	want func(x given) reply
}

func check(r api.Record) ask {
	return ask{"Check", given{R: r},
		func(x given) reply { return reply{Err: record.Check(x.R)} },
		func(x given) reply { return reply{Err: wantCheck(x.R)} }}
}

func encode(r api.Record) ask {
	return ask{"Encode", given{R: r},
		func(x given) reply {
			b, err := record.Encode(x.R)
			return reply{Octets: b, Err: err}
		},
		func(x given) reply { return wantEncode(x.R) }}
}

func parse(b []byte) ask {
	return ask{"Parse", given{B: b},
		func(x given) reply {
			r, n, err := record.Parse(x.B)
			return reply{Record: r, Size: n, Err: err}
		},
		func(x given) reply { return wantParse(x.B) }}
}

func same(a, b api.Record) ask {
	return ask{"Same", given{R: a, Other: b},
		func(x given) reply { return reply{Is: record.Same(x.R, x.Other)} },
		func(x given) reply { return reply{Is: wantSame(x.R, x.Other)} }}
}

// of: the call and what it is handed, so that a fault can be read.
func (a ask) of() string {
	return a.what + " of " + brief(a.x)
}

// mustAnswer: the call answers what the words tell, and leaves what it was
// handed as it was. It answers what the call did.
func mustAnswer(t *testing.T, what string, a ask) reply {
	t.Helper()
	ahead := whole(&a.x)
	want := a.want(a.x)
	got := a.call(a.x)
	if !one(got, want) {
		t.Fatalf("%s, %s: %s, want %s", what, a.of(), brief(got), brief(want))
	}
	if whole(&a.x) != ahead {
		t.Fatalf("%s, %s: what was handed in was changed", what, a.of())
	}
	return got
}

// mustBe: the call answers that.
func mustBe(t *testing.T, what string, a ask, want reply) {
	t.Helper()
	if got := mustAnswer(t, what, a); !one(got, want) {
		t.Errorf("%s, %s: %s, want %s", what, a.of(), brief(got), brief(want))
	}
}

// mustRefuse: the call answers that error, and else nothing.
func mustRefuse(t *testing.T, what string, a ask, want api.Errno) {
	t.Helper()
	mustBe(t, what, a, reply{Err: want})
}

// mustMay: the record may be, its octets are these, and it comes back.
func mustMay(t *testing.T, what string, r api.Record, octets []byte) {
	t.Helper()
	mustBe(t, what, check(r), reply{})
	mustBe(t, what, encode(r), reply{Octets: octets})
	mustBe(t, what, parse(octets), reply{Record: r, Size: len(octets)})
}

// mustNotMay: the record may not be, so that it has no octets.
func mustNotMay(t *testing.T, what string, r api.Record, err api.Errno) {
	t.Helper()
	mustRefuse(t, what, check(r), err)
	mustRefuse(t, what, encode(r), err)
}
