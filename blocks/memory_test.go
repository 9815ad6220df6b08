package blocks_test

import (
	"fmt"
	"math"
	"math/rand"
	"reflect"
	"slices"
	"strings"
	"testing"
	"unsafe"

	"godown/api"
	"godown/blocks"
)

// P11.5, and P1 to P3 of DOC.md

// room: where something stands in memory.
type room struct {
	first, end uintptr
}

func roomOf[T any](l []T) room {
	var one T
	at := uintptr(unsafe.Pointer(unsafe.SliceData(l)))
	return room{at, at + uintptr(cap(l))*unsafe.Sizeof(one)}
}

func roomOfText(s string) room {
	at := uintptr(unsafe.Pointer(unsafe.StringData(s)))
	return room{at, at + uintptr(len(s))}
}

// roomsOf: of all lists and texts that an answer or an argument has. (A text
// of one octet has none: the language makes no memory for it.)
func roomsOf(v any) []room {
	var out []room
	switch v := v.(type) {
	case string:
		if len(v) > 1 {
			out = append(out, roomOfText(v))
		}
	case []byte:
		out = append(out, roomOf(v))
	case []api.Block:
		out = append(out, roomOf(v))
		for _, b := range v {
			out = append(out, roomsOf(b.Data)...)
		}
	case []api.Record:
		out = append(out, roomOf(v))
		for _, r := range v {
			out = append(out, roomsOf(r.Data)...)
		}
	}
	return out
}

// mustShareNothing: the answers neither with what was handed in nor with each
// other, nor within one.
func mustShareNothing(t *testing.T, what string, given []any, answers ...any) {
	t.Helper()
	type side struct {
		room
		answer bool
	}
	var all []side
	for i, v := range append(slices.Clone(given), answers...) {
		for _, at := range roomsOf(v) {
			if at.first < at.end {
				all = append(all, side{at, i >= len(given)})
			}
		}
	}
	slices.SortFunc(all, func(a, b side) int { return int(a.first) - int(b.first) })
	// What was handed in may lie within other things that were: so the furthest
	// end of each side counts.
	var ofGiven, ofAnswers uintptr
	for _, s := range all {
		if s.first < ofAnswers || s.answer && s.first < ofGiven {
			t.Fatalf("%s: an answer shares memory", what)
		}
		if s.answer {
			ofAnswers = max(ofAnswers, s.end)
		} else {
			ofGiven = max(ofGiven, s.end)
		}
	}
}

// roomy: the list with room behind it, which is filled.
func roomy[T any](l []T, fill T) []T {
	out := slices.Clone(l)
	for range 20 {
		out = append(out, fill)
	}
	return out[:len(l)]
}

func roomyBlocks(l []api.Block) []api.Block {
	return roomy(l, api.Block{Index: 777, Data: "room behind some"})
}

// whole: a list and the room behind it, to be held against it later.
func whole[T any](l []T) []T {
	return slices.Clone(l[:cap(l)])
}

// lists: contents and what is none.
func lists() map[string][]api.Block {
	out := contents()
	for what, l := range noContents() {
		if len(l) <= maxIndex+1 {
			out["no content: "+what] = l
		}
	}
	return out
}

func TestArgumentsStay(t *testing.T) {
	other := roomyBlocks(content(0, 4, 5, 9, maxIndex-1))
	before := whole(other)
	for what, l := range lists() {
		l = roomyBlocks(l)
		ahead := whole(l)
		octets := roomy(wantOctets(l), 0xee)
		octetsAhead := whole(octets)
		blocks.Check(l)
		blocks.Same(l, other)
		for _, i := range []int{-1, 0, 1, 4, 5, 9, maxIndex - 1, maxIndex} {
			blocks.Get(l, i)
			blocks.Put(l, i, text(3))
			blocks.Put(l, i, "x")
			blocks.Free(l, i, 1)
			blocks.Free(l, i, 3)
			blocks.Free(l, i, maxIndex)
		}
		blocks.Diff(l, other)
		blocks.Diff(other, l)
		blocks.Diff(l, l)
		blocks.Octets(l)
		blocks.Read(octets)
		if !slices.Equal(whole(l), ahead) || !slices.Equal(whole(octets), octetsAhead) || !slices.Equal(whole(other), before) {
			t.Errorf("%s: what was handed in was changed", what)
		}
	}
}

// TestAnswersAreNotKept: an answer that is changed, or arguments that are,
// change no other answer.
func TestAnswersAreNotKept(t *testing.T) {
	l := content(1, 2, 5)
	want := slices.Clone(l)
	one, _ := blocks.Put(l, 2, text(9))
	two, _ := blocks.Put(l, 2, text(9))
	three, _ := blocks.Free(l, 7, 1)
	b, _ := blocks.Octets(l)
	four, _ := blocks.Read(b)
	change, _ := blocks.Diff(l, nil)
	for i := range l {
		l[i], one[i] = api.Block{}, api.Block{}
	}
	clear(b)
	b, _ = blocks.Octets(want)
	if !slices.Equal(two, []api.Block{want[0], {Index: 2, Data: text(9)}, want[2]}) || !slices.Equal(three, want) || !slices.Equal(four, want) {
		t.Error("an answer changes with what is no part of it")
	}
	if !slices.Equal(b, wantOctets(want)) || !sameRecords(change, []api.Record{gone(1, 2), gone(5, 1)}) {
		t.Error("octets or a change change with what is no part of them")
	}
}

func TestAnswersShareNoMemory(t *testing.T) {
	other := content(0, 3, 5, 9, 20, maxIndex-1)
	for what, l := range lists() {
		l = roomyBlocks(l)
		data := text(5)
		for _, i := range []int{0, 5, 9, maxIndex - 1} {
			one, is := blocks.Get(l, i)
			two, _ := blocks.Get(l, i)
			if is && one != two {
				t.Errorf("Get of %s answers unlike each time", what)
			}
			mustShareNothing(t, "Get of "+what, []any{l}, one, two)
			put, _ := blocks.Put(l, i, data)
			again, _ := blocks.Put(l, i, data)
			mustShareNothing(t, "Put into "+what, []any{l, data}, put, again)
			put, _ = blocks.Free(l, i, 1)
			again, _ = blocks.Free(l, i, 1)
			mustShareNothing(t, "Free of "+what, []any{l}, put, again)
		}
		for _, k := range [][]api.Block{nil, other, l} {
			one, _ := blocks.Diff(l, k)
			two, _ := blocks.Diff(l, k)
			three, _ := blocks.Diff(k, l)
			mustShareNothing(t, "Diff of "+what, []any{l, k}, one, two, three)
		}
		b, _ := blocks.Octets(l)
		again, _ := blocks.Octets(l)
		mustShareNothing(t, "Octets of "+what, []any{l}, b, again)
		one, _ := blocks.Read(b)
		two, _ := blocks.Read(b)
		mustShareNothing(t, "Read of "+what, []any{b}, one, two)
	}
}

// TestOneTextManyTimes: of what is handed in, all texts may be one; in what is
// answered each has memory of its own.
func TestOneTextManyTimes(t *testing.T) {
	data := text(8)
	var l []api.Block
	for i := range 40 {
		l = append(l, api.Block{Index: 3 * i, Data: data})
	}
	put, err := blocks.Put(l, 4, data)
	if want, _ := wantPut(l, 4, data); err != api.OK || !slices.Equal(put, want) {
		t.Errorf("Put of one text many times: %d", err)
	}
	freed, _ := blocks.Free(l, 9, 20)
	change, err := blocks.Diff(nil, l)
	if want, _ := wantDiff(nil, l); err != api.OK || !sameRecords(change, want) {
		t.Errorf("Diff of one text many times: %d", err)
	}
	mustShareNothing(t, "one text many times", []any{l}, put, freed, change)
	if got, err := blocks.Diff(l[:30], l[10:]); err != api.OK || !slices.Equal(applied(t, l[:30], got), l[10:]) {
		t.Errorf("Diff of two parts of one list: %d", err)
	}
}

func TestNilAndEmptyAreOne(t *testing.T) {
	for _, none := range [][]api.Block{nil, {}, content(1)[:0]} {
		if blocks.Check(none) != api.OK || !blocks.Same(none, nil) || !blocks.Same([]api.Block{}, none) {
			t.Error("Check or Same of no blocks")
		}
		if s, is := blocks.Get(none, 0); is || s != "" {
			t.Error("Get of no blocks")
		}
		l, err := blocks.Put(none, 1, text(1))
		if err != api.OK || !slices.Equal(l, content(1)) {
			t.Error("Put into no blocks")
		}
		if l, err := blocks.Free(none, 0, maxIndex); err != api.OK || l != nil {
			t.Error("Free of no blocks")
		}
		if r, err := blocks.Diff(none, []api.Block{}); err != api.OK || r != nil {
			t.Error("Diff of no blocks and none")
		}
		if r, err := blocks.Diff(l, none); err != api.OK || !sameRecords(r, []api.Record{gone(1, 1)}) {
			t.Error("Diff of a block and none")
		}
		if b, err := blocks.Octets(none); err != api.OK || b != nil {
			t.Error("Octets of no blocks")
		}
	}
	for _, none := range [][]byte{nil, {}, make([]byte, 18)[:0]} {
		if l, err := blocks.Read(none); err != api.OK || l != nil {
			t.Error("Read of no octets")
		}
	}
}

// TestNothingPanics: whatever is handed in, each call answers as the words
// tell it.
func TestNothingPanics(t *testing.T) {
	r := rand.New(rand.NewSource(115))
	numbers := []int{math.MinInt, -1 << 32, -maxIndex, -1, 0, 1, 2, 3, 9, 15, 16, 17, 18, maxIndex - 1, maxIndex, maxIndex + 1, 1 << 16, 1 << 32, math.MaxInt - 1, math.MaxInt}
	number := func() int { return numbers[r.Intn(len(numbers))] }
	anything := func() []api.Block {
		l := some(r)
		l = l[:r.Intn(min(len(l), 8)+1)]
		for i := range l {
			if r.Intn(12) == 0 {
				l[i].Index = number()
			}
			if r.Intn(12) == 0 {
				l[i].Data = strings.Repeat("x", r.Intn(20))
			}
		}
		return l
	}
	for range 20000 {
		l, k := anything(), anything()
		if blocks.Check(l) != wantCheck(l) || blocks.Same(l, k) != (fmt.Sprint(l) == fmt.Sprint(k)) {
			t.Fatalf("Check or Same of %v", l)
		}
		mustPut(t, "anything", l, number(), strings.Repeat("x", r.Intn(18)))
		mustFree(t, "anything", l, number(), number())
		mustDiff(t, "anything", l, k)
		mustRead(t, "anything", wantOctets(l))
		blocks.Get(l, number())
		if _, err := blocks.Octets(l); err != wantCheck(l) {
			t.Fatalf("Octets of %v: %d", l, err)
		}
		b := make([]byte, r.Intn(60))
		r.Read(b)
		mustRead(t, "any octets", b)
	}
}

// TestTheSameEachTime: whatever was asked ahead.
func TestTheSameEachTime(t *testing.T) {
	type answers struct {
		put, freed, read []api.Block
		change           []api.Record
		octets           []byte
		err              [5]api.Errno
	}
	ask := func(l []api.Block) answers {
		var a answers
		a.put, a.err[0] = blocks.Put(l, 5, text(6))
		a.freed, a.err[1] = blocks.Free(l, 5, 4)
		a.change, a.err[2] = blocks.Diff(l, content(5, 6, 7))
		a.octets, a.err[3] = blocks.Octets(l)
		a.read, a.err[4] = blocks.Read(wantOctets(l))
		return a
	}
	for what, l := range lists() {
		first := ask(l)
		for other, k := range lists() {
			if len(k) < 5 {
				ask(k)
				if !reflect.DeepEqual(ask(l), first) {
					t.Fatalf("%s is answered unlike each time, behind %s", what, other)
				}
			}
		}
	}
}
