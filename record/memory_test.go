package record_test

import (
	"math/rand"
	"reflect"
	"slices"
	"strings"
	"testing"

	"godown/api"
	"godown/record"
)

// P19.4, and P1 to P3 of DOC.md

// asks: each call, as it is answered without an error, and with each error.
func asks() []ask {
	var out []ask
	records := slices.Concat(ofEachKind(), begins(), writes()[:6], frees()[:6], ends()[:6], bad(), mixed(), []api.Record{{}, filled[api.Record](3), onto(aBegin(), func(r *api.Record) { r.Kind = 5 })})
	for i, r := range records {
		b := octetsOf(r)
		out = append(out, check(r), encode(r), same(r, r), same(r, records[(i+1)%len(records)]), parse(b), parse(b[:len(b)-1]), parse(append(slices.Clone(b), 1, 0, 0)))
	}
	for kind := range 6 {
		for n := range 4 {
			out = append(out, parse(written(kind, slices.Repeat([]string{number(7)}, n)...)))
		}
	}
	return append(out, parse(nil))
}

// answers: what each call answers without an error, of what is handed in.
func answers(t *testing.T, x given) []reply {
	t.Helper()
	var out []reply
	for _, a := range []ask{check(x.R), encode(x.R), encode(x.Other), parse(x.B), same(x.R, x.R), same(x.R, x.Other)} {
		got := a.call(a.x)
		if got.Err != api.OK {
			t.Fatalf("%s: error %d", a.of(), got.Err)
		}
		out = append(out, got)
	}
	return out
}

// someGiven: records that may be and octets of one, with memory of their own.
func someGiven(room int) given {
	return deep(given{R: aBegin(), Other: aWrite(), B: append(octetsOf(aBegin()), octetsOf(aWrite())...)}, room)
}

func TestArgumentsStay(t *testing.T) {
	for _, room := range []int{0, 1, 3, 9} {
		x := someGiven(room)
		ahead := whole(&x)
		answers(t, x)
		if whole(&x) != ahead {
			t.Errorf("room of %d: what was handed in was changed", room)
		}
		for _, a := range asks() {
			x := deep(a.x, room)
			ahead := whole(&x)
			a.call(x)
			if whole(&x) != ahead {
				t.Errorf("room of %d, %s: what was handed in was changed", room, a.of())
			}
		}
	}
}

// TestWhatStandsBehindDoesNotCount: nor does what a list could still hold.
func TestWhatStandsBehindDoesNotCount(t *testing.T) {
	for _, a := range asks() {
		want := a.call(a.x)
		for _, room := range []int{1, 4, 200} {
			if got := a.call(deep(a.x, room)); !one(got, want) {
				t.Errorf("%s: %s with room behind, %s without", a.of(), brief(got), brief(want))
			}
		}
	}
	// What is behind a beginning in memory is the record's own end.
	for _, r := range ofEachKind() {
		b := octetsOf(r)
		for n := range b {
			mustRefuse(t, "its end behind", parse(b[:n]), api.ErrShort)
		}
	}
}

func TestAnswersShareNoMemory(t *testing.T) {
	for _, room := range []int{0, 3} {
		x := someGiven(room)
		mustShareNothing(t, "records", roomsOf(x), slices.Concat(answers(t, x), answers(t, x))...)
	}
	for _, a := range asks() {
		x := deep(a.x, 2)
		mustShareNothing(t, a.of(), roomsOf(x), a.call(x), a.call(x))
	}
	r := rand.New(rand.NewSource(197))
	for range 300 {
		y := deep(someRecord(r), r.Intn(3))
		x := given{R: y, B: octetsOf(y)}
		mustShareNothing(t, brief(y), roomsOf(x), encode(y).call(x), parse(x.B).call(x), encode(y).call(x), parse(x.B).call(x))
	}
}

// TestOneMemoryManyTimes: of what is handed in all texts and lists may be one;
// in what is answered each has memory of its own.
func TestOneMemoryManyTimes(t *testing.T) {
	s := strings.Clone("abcdefghijklmnop")
	var l []api.Prop
	for i := 2; i < 10; i++ {
		l = append(l, api.Prop{Name: s[:i], Value: s[:i]})
	}
	x := given{R: api.Record{Kind: 1, Name: s, From: 1, Guid: 2, Own: l}, Other: api.Record{Kind: 2, Data: s}}
	one, two := encode(x.R).call(x), encode(x.Other).call(given{R: x.Other})
	x.B = one.Octets
	got := parse(x.B).call(x)
	if one.Err != api.OK || two.Err != api.OK || got.Err != api.OK || !record.Same(got.Record, x.R) {
		t.Fatalf("one text many times: %s, %s, %s", brief(one), brief(two), brief(got))
	}
	given := slices.Concat(roomsOf(x.R), roomsOf(x.Other), roomsOf(s))
	mustShareNothing(t, "one text many times", given, one, two, got, parse(x.B).call(x))
}

// TestAnswersAreNotKept: an answer that is changed, or arguments that are,
// change no other answer.
func TestAnswersAreNotKept(t *testing.T) {
	wreck := func(x any) {
		for _, leaf := range leavesOf(x) {
			leaf.SetZero()
		}
		for _, l := range listsOf(x) {
			l.Slice(0, l.Cap()).Clear()
		}
	}
	x := someGiven(2)
	want := told(answers(t, x))
	got, other := answers(t, x), answers(t, x)
	for i := range other {
		wreck(&other[i])
	}
	if told(answers(t, x)) != want {
		t.Error("an answer changes with another one")
	}
	wreck(&x)
	if told(got) != want {
		t.Error("an answer changes with what was handed in")
	}
	for i := range got {
		wreck(&got[i])
		if told(got[i+1:]) != told(answers(t, someGiven(0))[i+1:]) {
			t.Error("answers change with each other")
		}
	}
	if told(answers(t, someGiven(0))) != want {
		t.Error("an answer changes with one that was")
	}
}

func TestNilAndEmptyAreOne(t *testing.T) {
	for _, a := range asks() {
		empty, bare := deep(a.x, 0), deep(a.x, 0)
		for _, l := range listsOf(&empty) {
			if l.Len() == 0 {
				l.Set(reflect.MakeSlice(l.Type(), 0, 3))
			}
		}
		for _, l := range listsOf(&bare) {
			if l.Len() == 0 {
				l.SetZero()
			}
		}
		if !one(a.call(empty), a.call(bare)) {
			t.Errorf("%s: empty lists are not as nil ones", a.of())
		}
	}
}

// TestTheSameEachTime: whatever was asked ahead.
func TestTheSameEachTime(t *testing.T) {
	want := told(answers(t, someGiven(0)))
	for _, a := range asks() {
		first := a.call(a.x)
		if told(answers(t, someGiven(0))) != want || !one(a.call(a.x), first) {
			t.Fatalf("answers are others behind %s", a.of())
		}
	}
}

// TestTheSameInManyGoroutines: of one memory.
func TestTheSameInManyGoroutines(t *testing.T) {
	x := someGiven(2)
	want := told(answers(t, x))
	got := make(chan string)
	for range 16 {
		go func() { got <- told(answers(t, x)) }()
	}
	for range 16 {
		if <-got != want {
			t.Error("an answer is another one in a goroutine")
		}
	}
}

// TestHuge: records and octets far above all limits are answered soon.
func TestHuge(t *testing.T) {
	const n = 1 << 24
	long, many, octets := strings.Repeat("b", n), make([]api.Prop, 1<<20), make([]byte, n)
	for _, r := range append(ofEachKind(), api.Record{}, api.Record{Kind: 5}) {
		for _, do := range []func(r *api.Record){
			func(r *api.Record) { r.Name = long },
			func(r *api.Record) { r.Data = long },
			func(r *api.Record) { r.Own = many },
			func(r *api.Record) { r.Own = []api.Prop{{Name: long}} },
			func(r *api.Record) { r.Own = []api.Prop{{Name: "a", Value: long}} },
		} {
			x := onto(r, do)
			want := api.ErrState
			if r.Kind%5 == 0 {
				want = api.ErrKind
			}
			b, err := record.Encode(x)
			if record.Check(x) != want || err != want || b != nil {
				t.Errorf("a huge record of kind %d: %d", r.Kind, err)
			}
			if !record.Same(x, x) || record.Same(x, r) || record.Same(r, x) {
				t.Errorf("a huge record of kind %d is not as it is", r.Kind)
			}
		}
	}
	for _, r := range ofEachKind() {
		b := octetsOf(r)
		copy(octets, b)
		if got, size, err := record.Parse(octets); err != api.OK || size != len(b) || !record.Same(got, r) {
			t.Errorf("%d octets, a record ahead: %d, %d, %s", n, err, size, brief(got))
		}
		octets[1], octets[2] = 255, 255
		if got, size, err := record.Parse(octets); err != api.ErrSyntax || size != 0 || !one(got, api.Record{}) {
			t.Errorf("%d octets: %d, %d, %s", n, err, size, brief(got))
		}
		octets[0] = 0
		if _, _, err := record.Parse(octets); err != api.ErrKind {
			t.Errorf("%d octets of no kind: %d", n, err)
		}
	}
}
