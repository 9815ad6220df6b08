package props_test

import (
	"math/rand"
	"reflect"
	"slices"
	"strings"
	"testing"
	"unsafe"

	"godown/api"
	"godown/props"
)

// P12.3, and P1 to P3 of DOC.md

// room: where something stands in memory.
type room struct {
	first, end uintptr
}

func roomOf[T any](l []T) room {
	var one T
	at := uintptr(unsafe.Pointer(unsafe.SliceData(l)))
	return room{at, at + uintptr(cap(l))*unsafe.Sizeof(one)}
}

// roomsOf: of all lists and texts that an answer or an argument has. (A text
// of one octet has none: the language makes no memory for it.)
func roomsOf(v any) []room {
	var out []room
	switch v := v.(type) {
	case string:
		if len(v) > 1 {
			at := uintptr(unsafe.Pointer(unsafe.StringData(v)))
			out = append(out, room{at, at + uintptr(len(v))})
		}
	case []string:
		out = append(out, roomOf(v))
		for _, s := range v {
			out = append(out, roomsOf(s)...)
		}
	case []api.Prop:
		out = append(out, roomOf(v))
		for _, p := range v {
			out = append(out, roomsOf(p.Name)...)
			out = append(out, roomsOf(p.Value)...)
		}
	case [][]api.Prop:
		out = append(out, roomOf(v))
		for _, l := range v {
			out = append(out, roomsOf(l)...)
		}
	}
	return out
}

// mustShareNothing: the answers neither with what was handed in nor with each
// other, nor within one.
func mustShareNothing(t *testing.T, what string, given []any, answers ...any) {
	t.Helper()
	type side struct {
		room
		answer bool
	}
	var all []side
	for i, v := range append(slices.Clone(given), answers...) {
		for _, at := range roomsOf(v) {
			if at.first < at.end {
				all = append(all, side{at, i >= len(given)})
			}
		}
	}
	slices.SortFunc(all, func(a, b side) int { return int(a.first) - int(b.first) })
	// What was handed in may lie within other things that were: so the furthest
	// end of each side counts.
	var ofGiven, ofAnswers uintptr
	for _, s := range all {
		if s.first < ofAnswers || s.answer && s.first < ofGiven {
			t.Fatalf("%s: an answer shares memory", what)
		}
		if s.answer {
			ofAnswers = max(ofAnswers, s.end)
		} else {
			ofGiven = max(ofGiven, s.end)
		}
	}
}

// roomy: the list with room behind it, which is filled.
func roomy[T any](l []T, fill T) []T {
	out := slices.Clone(l)
	for range 20 {
		out = append(out, fill)
	}
	return out[:len(l)]
}

func roomyProps(l []api.Prop) []api.Prop {
	return roomy(l, api.Prop{Name: "behind", Value: "some"})
}

// whole: a list and the room behind it, to be held against it later.
func whole[T any](l []T) []T {
	return slices.Clone(l[:cap(l)])
}

// long: properties whose names and values have memory.
func long() []api.Prop {
	return list("atime=off", "compression=lz4", "quota=on and off", "readonly=  ", "zz="+strings.Repeat("~", 32))
}

func TestArgumentsStay(t *testing.T) {
	other := roomyProps(long())
	before := whole(other)
	for what, l := range lists() {
		l = roomyProps(l)
		ahead := whole(l)
		texts := roomy(wantText(l), "behind")
		textsAhead := whole(texts)
		all := roomy([][]api.Prop{l, other, nil, l}, span(3))
		allAhead := whole(all)
		props.Check(l)
		props.Same(l, other)
		for _, name := range append(noNames(), "a", "b", "c", "d", "p", "z", "quota") {
			props.Get(l, name)
			props.Set(l, name, "anew")
			props.Set(l, name, "\x7f")
			props.Unset(l, name)
		}
		props.Over(all...)
		props.Over(all[1:2]...)
		props.Over(l, other)
		props.Over(l)
		props.Text(l)
		props.Read(texts)
		if !slices.Equal(whole(l), ahead) || !slices.Equal(whole(texts), textsAhead) || !slices.Equal(whole(other), before) {
			t.Errorf("%s: what was handed in was changed", what)
		}
		if !slices.EqualFunc(whole(all), allAhead, func(a, b []api.Prop) bool { return slices.Equal(a, b) && cap(a) == cap(b) }) {
			t.Errorf("%s: the list of the lists was changed", what)
		}
	}
}

// TestAnswersAreNotKept: an answer that is changed, or arguments that are,
// change no other answer.
func TestAnswersAreNotKept(t *testing.T) {
	l := long()
	texts := wantText(l)
	set, _ := props.Set(l, "quota", "none")
	again, _ := props.Set(l, "quota", "none")
	unset, _ := props.Unset(l, "quota")
	over, _ := props.Over(l)
	twice, _ := props.Over(l, l)
	told := props.Text(l)
	read, _ := props.Read(texts)
	clear(l)
	clear(texts)
	clear(again)
	want := long()
	if !slices.Equal(over, want) || !slices.Equal(twice, want) || !slices.Equal(read, want) || !slices.Equal(told, wantText(want)) {
		t.Error("an answer changes with what was handed in")
	}
	if !slices.Equal(unset, without(want, "quota")) {
		t.Error("Unset's answer changes with what was handed in")
	}
	want[2].Value = "none"
	if !slices.Equal(set, want) {
		t.Error("Set's answer changes with what is no part of it")
	}
}

func TestAnswersShareNoMemory(t *testing.T) {
	all := lists()
	all["long names and values"] = long()
	other := long()
	name, value := strings.Clone("quota"), strings.Clone("anew and longer")
	for what, l := range all {
		l = roomyProps(l)
		for _, s := range append([]string{name, "b", "p", "zz"}, wantText(l[:min(len(l), 8)])...) {
			one, _ := props.Get(l, s)
			two, _ := props.Get(l, s)
			mustShareNothing(t, "Get of "+what, []any{l, s}, one, two)
			set, _ := props.Set(l, s, value)
			again, _ := props.Set(l, s, value)
			mustShareNothing(t, "Set of "+what, []any{l, s, value}, set, again)
			set, _ = props.Unset(l, s)
			again, _ = props.Unset(l, s)
			mustShareNothing(t, "Unset of "+what, []any{l, s}, set, again)
		}
		set, _ := props.Set(l, name, value)
		mustShareNothing(t, "Set of "+what, []any{l, name, value}, set)
		for _, lists := range [][][]api.Prop{{l}, {l, l}, {l, other}, {other, l}, {nil, l, nil}, {l, other, l}} {
			one, _ := props.Over(lists...)
			two, _ := props.Over(lists...)
			mustShareNothing(t, "Over of "+what, []any{lists}, one, two)
		}
		texts, again := props.Text(l), props.Text(l)
		mustShareNothing(t, "Text of "+what, []any{l}, texts, again)
		one, _ := props.Read(texts)
		two, _ := props.Read(texts)
		mustShareNothing(t, "Read of "+what, []any{texts, again}, one, two)
	}
}

// TestOneTextManyTimes: of what is handed in, all texts may be one; in what is
// answered each has memory of its own.
func TestOneTextManyTimes(t *testing.T) {
	s := strings.Clone("abcdefgh")
	var l []api.Prop
	for i := range 7 {
		l = append(l, api.Prop{Name: s[:i+2], Value: s})
	}
	if props.Check(l) != api.OK {
		t.Fatal("Check of one text many times")
	}
	set, err := props.Set(l, s[1:], s)
	if want, _ := wantSet(l, s[1:], s); err != api.OK || !slices.Equal(set, want) {
		t.Errorf("Set of one text many times = %v, %d", set, err)
	}
	unset, _ := props.Unset(l, s)
	over, err := props.Over(l[:5], l[2:], l)
	if err != api.OK || !slices.Equal(over, l) {
		t.Errorf("Over of parts of one list = %v, %d", over, err)
	}
	texts := props.Text(l)
	read, err := props.Read(wantText(l))
	if err != api.OK || !slices.Equal(read, l) {
		t.Errorf("Read of one text many times = %v, %d", read, err)
	}
	mustShareNothing(t, "one text many times", []any{l, s}, set, unset, over, texts, read)
}

func TestNilAndEmptyAreOne(t *testing.T) {
	for _, none := range [][]api.Prop{nil, {}, span(1)[:0]} {
		if props.Check(none) != api.OK || !props.Same(none, nil) || !props.Same([]api.Prop{}, none) || props.Same(none, span(1)) {
			t.Error("Check or Same of none")
		}
		if s, is := props.Get(none, ""); is || s != "" {
			t.Error("Get of none")
		}
		if l, err := props.Set(none, "b", "1"); err != api.OK || !slices.Equal(l, list("b=1")) {
			t.Error("Set in none")
		}
		if l, err := props.Unset(none, "b"); err != api.ErrNone || l != nil {
			t.Error("Unset in none")
		}
		if l, err := props.Over(none); err != api.OK || l != nil {
			t.Error("Over of none")
		}
		if l, err := props.Over(none, span(2), none); err != api.OK || !slices.Equal(l, span(2)) {
			t.Error("Over of none, some, none")
		}
		if l := props.Text(none); l != nil {
			t.Error("Text of none")
		}
	}
	for _, none := range [][][]api.Prop{nil, {}} {
		if l, err := props.Over(none...); err != api.OK || l != nil {
			t.Error("Over of no lists")
		}
	}
	for _, none := range [][]string{nil, {}, []string{"b"}[:0]} {
		if l, err := props.Read(none); err != api.OK || l != nil {
			t.Error("Read of no texts")
		}
	}
}

// TestNothingPanics: whatever is handed in, each call answers as the words
// tell it.
func TestNothingPanics(t *testing.T) {
	r := rand.New(rand.NewSource(125))
	text := func() string {
		switch r.Intn(8) {
		case 0:
			b := make([]byte, r.Intn(40))
			r.Read(b)
			return string(b)
		case 1:
			return strings.Repeat("b", r.Intn(36))
		}
		return string(rune('a' + r.Intn(10)))
	}
	anything := func() []api.Prop {
		l := some(r, "abcdefghij")
		for i := range l {
			if r.Intn(20) == 0 {
				l[i].Name = text()
			}
			if r.Intn(20) == 0 {
				l[i].Value = text()
			}
		}
		return l
	}
	for range 20000 {
		l, k := anything(), anything()
		if props.Check(l) != wantCheck(l) || props.Same(l, k) != slices.Equal(wantText(l), wantText(k)) {
			t.Fatalf("Check or Same of %q", l)
		}
		mustSet(t, "anything", l, text(), text())
		mustUnset(t, "anything", l, text())
		mustOver(t, "anything", l, k, anything())
		if !slices.Equal(props.Text(l), wantText(l)) {
			t.Fatalf("Text of %q", l)
		}
		texts := make([]string, r.Intn(20))
		for i := range texts {
			texts[i] = text()
		}
		mustRead(t, "anything", texts)
		mustRead(t, "anything's text", wantText(l))
		props.Get(l, text())
	}
	huge := strings.Repeat("b", 1<<24)
	l := []api.Prop{{Name: huge, Value: huge}}
	if _, err := props.Set(nil, huge, huge); err != api.ErrName {
		t.Errorf("Set of a huge name: %d", err)
	}
	if _, err := props.Set(nil, "b", huge); err != api.ErrState {
		t.Errorf("Set to a huge value: %d", err)
	}
	if _, err := props.Over(nil, l); err != api.ErrState || props.Check(l) != api.ErrState {
		t.Errorf("Over of a huge name: %d", err)
	}
}

// TestTheSameEachTime: whatever was asked ahead, and in whatever order a map
// is gone through.
func TestTheSameEachTime(t *testing.T) {
	type answers struct {
		set, unset, over, read []api.Prop
		text                   []string
		err                    [4]api.Errno
	}
	ask := func(l []api.Prop) answers {
		var a answers
		a.set, a.err[0] = props.Set(l, "d", "anew")
		a.unset, a.err[1] = props.Unset(l, "d")
		a.over, a.err[2] = props.Over(l, span(4), l)
		a.text = props.Text(l)
		a.read, a.err[3] = props.Read(a.text)
		return a
	}
	for what, l := range lists() {
		first := ask(l)
		for other, k := range good() {
			ask(k)
			if !reflect.DeepEqual(ask(l), first) {
				t.Fatalf("%s is answered unlike each time, behind %s", what, other)
			}
		}
	}
	for range 300 {
		if l, err := props.Over(span(8)[4:], span(8)[:4]); err != api.OK || !slices.Equal(l, span(8)) {
			t.Fatalf("Over = %v, %d", l, err)
		}
	}
}
