package perms_test

import (
	"math/rand"
	"slices"
	"strings"
	"testing"
	"unsafe"

	"godown/api"
	"godown/perms"
)

// P13.3, and P1 to P3 of DOC.md

// room: where something stands in memory.
type room struct {
	first, end uintptr
}

// roomOf: of a text. (A text of one octet has none: the language makes no
// memory for it.)
func roomOf(s string) []room {
	if len(s) < 2 {
		return nil
	}
	at := uintptr(unsafe.Pointer(unsafe.StringData(s)))
	return []room{{at, at + uintptr(len(s))}}
}

// roomsOf: of all that an answer or an argument has.
func roomsOf(l []api.Grant) []room {
	at := uintptr(unsafe.Pointer(unsafe.SliceData(l)))
	out := []room{{at, at + uintptr(cap(l))*unsafe.Sizeof(api.Grant{})}}
	for _, g := range l {
		out = append(out, roomOf(g.User)...)
		out = append(out, roomOf(g.Path)...)
	}
	return out
}

// mustShareNothing: the answers neither with what was handed in nor with each
// other, nor within one.
func mustShareNothing(t *testing.T, what string, given []room, answers ...[]api.Grant) {
	t.Helper()
	var fresh []room
	for _, l := range answers {
		fresh = append(fresh, roomsOf(l)...)
	}
	for i, a := range fresh {
		for _, b := range slices.Concat(given, fresh[:i]) {
			if a.first < b.end && b.first < a.end {
				t.Fatalf("%s: an answer shares memory", what)
			}
		}
	}
}

// roomy: the grants with room behind them, which is filled.
func roomy(l []api.Grant) []api.Grant {
	out := slices.Clone(l)
	for range 20 {
		out = append(out, api.Grant{User: "behind", Path: "be/hind", Perms: 255})
	}
	return out[:len(l)]
}

// whole: a list and the room behind it, to be held against it later.
func whole(l []api.Grant) []api.Grant {
	return slices.Clone(l[:cap(l)])
}

// long: grants whose users and paths have memory.
func long() []api.Grant {
	return list("alice::1", "alice:home/music:255", "bob:home:6", "bob:home/music/old:8", "zoe:"+longestPath+":64")
}

// asked: what the lists have and what they have not.
func asked() []api.Grant {
	return append(long(), list("alice:home:3", "new:new/one:255", "b:c:1", "b::3", "z:z:2", "B:c:1", ":c:1", "b:/:1", "b:c:0", "b:c:256")...)
}

func TestArgumentsStay(t *testing.T) {
	all := lists()
	all["long users and paths"] = long()
	for what, l := range all {
		l = roomy(l)
		ahead := whole(l)
		perms.Check(l)
		for _, g := range append(asked(), ahead...) {
			perms.Of(l, g.User, g.Path)
			perms.May(l, g.User, g.Path, g.Perms)
			perms.Allow(l, g.User, g.Path, g.Perms)
			perms.Allow(l, g.User, g.Path, 255)
			perms.Deny(l, g.User, g.Path, g.Perms)
			perms.Deny(l, g.User, g.Path, 1)
		}
		if !slices.Equal(whole(l), ahead) {
			t.Errorf("%s: what was handed in was changed", what)
		}
	}
}

// TestAnswersAreNotKept: an answer that is changed, or arguments that are,
// change no other answer.
func TestAnswersAreNotKept(t *testing.T) {
	l := long()
	allowed, _ := perms.Allow(l, "alice", "home", 2)
	again, _ := perms.Allow(l, "alice", "home", 2)
	more, _ := perms.Allow(l, "bob", "home", 1)
	less, _ := perms.Deny(l, "bob", "home", 2)
	gone, _ := perms.Deny(l, "bob", "home", 6)
	same, _ := perms.Deny(l, "bob", "home", 128)
	clear(l)
	clear(again)
	clear(more)
	want := long()
	if !slices.Equal(allowed, slices.Insert(long(), 1, list("alice:home:2")...)) || !slices.Equal(same, want) {
		t.Error("an answer changes with what was handed in")
	}
	if !slices.Equal(gone, slices.Delete(long(), 2, 3)) {
		t.Error("Deny's answer changes with what was handed in")
	}
	want[2].Perms = 4
	if !slices.Equal(less, want) {
		t.Error("Deny's answer changes with what is no part of it")
	}
}

func TestAnswersShareNoMemory(t *testing.T) {
	all := lists()
	all["long users and paths"] = long()
	for what, l := range all {
		l = roomy(l)
		for _, g := range append(asked(), l[:min(len(l), 16)]...) {
			given := slices.Concat(roomsOf(l), roomOf(g.User), roomOf(g.Path))
			var answers [][]api.Grant
			for _, rights := range []int{1, 128, 255} {
				one, _ := perms.Allow(l, g.User, g.Path, rights)
				two, _ := perms.Allow(l, g.User, g.Path, rights)
				three, _ := perms.Deny(l, g.User, g.Path, rights)
				four, _ := perms.Deny(l, g.User, g.Path, rights)
				answers = append(answers, one, two, three, four)
			}
			mustShareNothing(t, "Allow and Deny in "+what, given, answers...)
		}
	}
}

// TestOneTextManyTimes: of what is handed in, all texts may be one; in what is
// answered each has memory of its own.
func TestOneTextManyTimes(t *testing.T) {
	s := strings.Clone("abcdefghijklmnop")
	var l []api.Grant
	for i := range 15 {
		l = append(l, api.Grant{User: s[:i+2], Path: s, Perms: i + 1})
	}
	if perms.Check(l) != api.OK {
		t.Fatal("Check of one text many times")
	}
	given := append(roomsOf(l), roomOf(s)...)
	var answers [][]api.Grant
	for _, g := range []api.Grant{{User: s[1:], Path: s[1:]}, {User: s, Path: s}, {User: s[:2], Path: s}} {
		mustAllow(t, "one text many times", l, g.User, g.Path, 64)
		mustDeny(t, "one text many times", l, g.User, g.Path, 1)
		allowed, _ := perms.Allow(l, g.User, g.Path, 64)
		denied, _ := perms.Deny(l, g.User, g.Path, 1)
		answers = append(answers, allowed, denied)
	}
	mustShareNothing(t, "one text many times", given, answers...)
}

func TestNilAndEmptyAreOne(t *testing.T) {
	for _, none := range [][]api.Grant{nil, {}, span(1)[:0]} {
		if perms.Check(none) != api.OK || perms.Of(none, "b", "c") != 0 || perms.Of(none, "", "c") != 255 {
			t.Error("Check or Of of none")
		}
		if perms.May(none, "b", "c", 1) || !perms.May(none, "b", "c", 0) || !perms.May(none, "", "c", 255) {
			t.Error("May of none")
		}
		if l, err := perms.Allow(none, "b", "c", 1); err != api.OK || !slices.Equal(l, list("b:c:1")) {
			t.Error("Allow in none")
		}
		if l, err := perms.Deny(none, "b", "c", 1); err != api.ErrNone || l != nil {
			t.Error("Deny in none")
		}
	}
}

// TestNothingPanics: whatever is handed in, each call answers as the words
// tell it.
func TestNothingPanics(t *testing.T) {
	r := rand.New(rand.NewSource(135))
	text := func() string {
		switch r.Intn(8) {
		case 0:
			b := make([]byte, r.Intn(40))
			r.Read(b)
			return string(b)
		case 1:
			return strings.Repeat("b", r.Intn(20))
		case 2:
			return strings.Repeat("b/", r.Intn(6)) + "b"
		}
		return paths[r.Intn(len(paths))]
	}
	number := func() int {
		switch r.Intn(4) {
		case 0:
			return int(r.Uint64())
		case 1:
			return noRights()[r.Intn(len(noRights()))]
		}
		return 1 + r.Intn(255)
	}
	anything := func() []api.Grant {
		l := some(r)
		for i := range l {
			switch r.Intn(60) {
			case 0:
				l[i].User = text()
			case 1:
				l[i].Path = text()
			case 2:
				l[i].Perms = number()
			case 3:
				l[0], l[i] = l[i], l[0]
			}
		}
		return l
	}
	for range 20000 {
		l, user, path, n := anything(), text(), text(), number()
		if r.Intn(2) == 0 {
			user = users[r.Intn(len(users))]
		}
		if perms.Check(l) != wantCheck(l) {
			t.Fatalf("Check of %v", l)
		}
		if perms.Of(l, user, path) != wantOf(l, user, path) || perms.May(l, user, path, n) != wantMay(l, user, path, n) {
			t.Fatalf("Of or May of %v, %q, %q, %d", l, user, path, n)
		}
		mustAllow(t, "anything", l, user, path, n)
		mustDeny(t, "anything", l, user, path, n)
	}
}

func TestHuge(t *testing.T) {
	huge := strings.Repeat("b", 1<<24)
	deep := strings.Repeat("b/", 1<<20) + "b"
	for _, l := range [][]api.Grant{{{User: huge, Path: "a", Perms: 1}}, {{User: "b", Path: huge, Perms: 1}}, {{User: "b", Path: deep, Perms: 1}}, rootsOf(1 << 16)} {
		if perms.Check(l) != api.ErrState {
			t.Error("Check of a huge list")
		}
		if perms.Of(l, huge, "a") != 0 || perms.Of(l, "b", huge) != 0 || perms.Of(l, "b", deep) != 0 || perms.Of(l, "", huge) != 255 {
			t.Error("Of of a huge text")
		}
		if got, err := perms.Allow(l, "b", "a", 1); err != api.ErrState || got != nil {
			t.Error("Allow in a huge list")
		}
		if got, err := perms.Deny(l, "b", "a", 1); err != api.ErrState || got != nil {
			t.Error("Deny in a huge list")
		}
	}
	for _, g := range []api.Grant{{User: huge}, {User: "b", Path: huge}, {User: "b", Path: deep}} {
		if _, err := perms.Allow(nil, g.User, g.Path, 1); err != api.ErrName {
			t.Error("Allow of a huge text")
		}
		if _, err := perms.Deny(nil, g.User, g.Path, 1); err != api.ErrName {
			t.Error("Deny of a huge text")
		}
	}
}

// TestTheSameEachTime: whatever was asked ahead.
func TestTheSameEachTime(t *testing.T) {
	type answers struct {
		allow, deny []api.Grant
		of          int
		may         bool
		err         [3]api.Errno
	}
	ask := func(l []api.Grant) answers {
		var a answers
		a.err[0] = perms.Check(l)
		a.allow, a.err[1] = perms.Allow(l, "d", "c", 128)
		a.deny, a.err[2] = perms.Deny(l, "d", "c", 1)
		a.of = perms.Of(l, "d", "c/b")
		a.may = perms.May(l, "d", "c/b", 1)
		return a
	}
	one := func(a, b answers) bool {
		return slices.Equal(a.allow, b.allow) && slices.Equal(a.deny, b.deny) && a.of == b.of && a.may == b.may && a.err == b.err
	}
	for what, l := range lists() {
		first := ask(l)
		for other, k := range good() {
			ask(k)
			if !one(ask(l), first) {
				t.Fatalf("%s is answered unlike each time, behind %s", what, other)
			}
		}
	}
}
