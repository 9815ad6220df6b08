package names_test

import (
	"bytes"
	"fmt"
	"regexp"
	"strings"
	"testing"
	"unsafe"

	"godown/api"
	"godown/names"
)

const (
	name16 = "abcdefghij-_0189"
	name17 = name16 + "z"
	path4  = name16 + "/" + name16 + "/" + name16 + "/" + name16
)

// The words of the document, told in another way than the program tells them.
var (
	aName = regexp.MustCompile(`\A[a-z0-9_-]{1,16}\z`)
	aPath = regexp.MustCompile(`\A([a-z0-9_-]{1,16}(/[a-z0-9_-]{1,16}){0,3})?\z`)
	aSnap = regexp.MustCompile(`\A((?:[a-z0-9_-]{1,16}(?:/[a-z0-9_-]{1,16}){0,3})?)@([a-z0-9_-]{1,16})\z`)
)

// answer: what Canon, Parent and Split tell; found is Parent's.
type answer struct {
	one, two string
	found    bool
	err      api.Errno
}

func (a answer) String() string {
	return fmt.Sprintf("{%.80q %.80q %v %d}", a.one, a.two, a.found, a.err)
}

func canon(s string) answer {
	path, err := names.Canon(s)
	return answer{one: path, err: err}
}

func parent(path string) answer {
	above, found := names.Parent(path)
	return answer{one: above, found: found}
}

func split(s string) answer {
	path, name, err := names.Split(s)
	return answer{one: path, two: name, err: err}
}

func wantCanon(s string) answer {
	b := []byte(s)
	if len(b) > 0 && b[len(b)-1] == '/' {
		b = b[:len(b)-1]
	}
	for i, c := range b {
		if strings.IndexByte("ABCDEFGHIJKLMNOPQRSTUVWXYZ", c) >= 0 {
			b[i] = c + 32
		}
	}
	if !aPath.Match(b) {
		return answer{err: api.ErrName}
	}
	return answer{one: string(b)}
}

func wantParent(path string) answer {
	if path == "" || !aPath.MatchString(path) {
		return answer{}
	}
	l := strings.Split(path, "/")
	return answer{one: strings.Join(l[:len(l)-1], "/"), found: true}
}

// wantUnder: path's names begin with all of from's.
func wantUnder(path, from string) bool {
	if !aPath.MatchString(path) || !aPath.MatchString(from) {
		return false
	}
	if from == "" {
		return true
	}
	l, begin := strings.Split(path, "/"), strings.Split(from, "/")
	return len(l) >= len(begin) && strings.Join(l[:len(begin)], "/") == from
}

func wantSplit(s string) answer {
	m := aSnap.FindStringSubmatch(s)
	if m == nil {
		return answer{err: api.ErrName}
	}
	return answer{one: m[1], two: m[2]}
}

// edgePaths: paths of 0 to 4 names, short ones and the longest.
func edgePaths() []string {
	return []string{
		"", "a", "b", "0", "-", "_", "ab", "a-b", "a_b", name16, name16[:15],
		"a/b", "a/bc", "a/b/c", "a/b/c/d", "ab/c", "b/a", "a/a", "a/a/a/a", "a/ab",
		name16 + "/b", "a/" + name16, path4, "-/_", "0/1/2/3", "a/b/c/dd",
	}
}

// edgeTexts: what is no path, nor a snapshot's, for each cause that there is.
func edgeTexts() []string {
	return []string{
		"/", "//", "///", "a/", "/a", "a//b", "a//", "//a", "/a/", "a/b/", "a/b//", "/a/b", "a/b/c/d/", "a/b//c",
		"a/b/c/d/e", "a/b/c/d/e/", "a/b/c/d/e/f", path4 + "/", path4 + "/a",
		name17, name17 + "/", "a/" + name17, name17 + "/a", "a/b/c/" + name17,
		"A", "a/B", "A/b", "aB", "Ab", "a.b", "a b", " a", "a ", ".", "..", "a/..", "a\\b", "a:b", "a+b", "a,b",
		"\x00", "a\x00", "a\n", "\na", "\t", "`", "{", ":", "~", "\x7f", "\x80", "\xc3", "\xff", "a\xff", "a/\xff", "\xff/a",
		"é", "a/é", "É", "ß", "\u212a", "a\u212a", "\u0130", "\uff41", "\u0661", "\ufffd",
		"@", "@@", "a@", "@a@", "@@a", "a@@b", "a@b@c", "a/@b", "/@b", "a@/", "a@b/", "a@b/c", "a@/b", "A@b", "a@B", "a@" + name17,
		name17 + "@a", "a/b/c/d/e@a", "a//b@c", "a@é", "é@a", "a@\x00", "a b@c", "a@b c", " @a", "@ ", "a\uff20b",
	}
}

// snapTexts: a path, @ and a name.
func snapTexts() []string {
	return []string{"@a", "a@b", "a@a", "a/b@c", "a/b/c/d@e", "@" + name16, name16 + "@" + name16, path4 + "@" + name16, "-@_", "0@0"}
}

func allTexts() []string {
	return append(append(edgePaths(), edgeTexts()...), snapTexts()...)
}

// everyText calls f with each text of at most n of the pieces.
func everyText(n int, pieces []string, f func(s string)) {
	f("")
	if n == 0 {
		return
	}
	for _, p := range pieces {
		everyText(n-1, pieces, func(s string) { f(p + s) })
	}
}

// checkAll: once a test has failed it tells of no further text.
func checkAll(t *testing.T, s string) {
	t.Helper()
	if t.Failed() {
		return
	}
	if got, want := names.Name(s), aName.MatchString(s); got != want {
		t.Errorf("Name(%q) = %v", s, got)
	}
	if got, want := names.Path(s), aPath.MatchString(s); got != want {
		t.Errorf("Path(%q) = %v", s, got)
	}
	if got, want := canon(s), wantCanon(s); got != want {
		t.Errorf("Canon(%q) = %v, want %v", s, got, want)
	}
	if got, want := parent(s), wantParent(s); got != want {
		t.Errorf("Parent(%q) = %v, want %v", s, got, want)
	}
	if got, want := split(s), wantSplit(s); got != want {
		t.Errorf("Split(%q) = %v, want %v", s, got, want)
	}
}

func TestLimits(t *testing.T) {
	if api.MaxName != 16 || api.MaxDepth != 4 {
		t.Fatalf("MaxName = %d, MaxDepth = %d, want 16, 4", api.MaxName, api.MaxDepth)
	}
}

// TestTexts: every call of one text, against the words of the document.
func TestTexts(t *testing.T) {
	for _, s := range allTexts() {
		checkAll(t, s)
	}
}

func TestEveryShortText(t *testing.T) {
	everyText(6, []string{"a", "Z", "/", "@", "-", "\xc3"}, func(s string) { checkAll(t, s) })
	everyText(5, []string{"a", "/", name16, name16 + "/", "@", "@" + name16}, func(s string) { checkAll(t, s) })
	everyText(9, []string{"b", "/"}, func(s string) { checkAll(t, s) })
}

// TestEachOctet: alone, and at the beginning, in the middle and at the end of
// a name, of a path and of a snapshot's.
func TestEachOctet(t *testing.T) {
	for o := range 256 {
		c := string([]byte{byte(o)})
		for _, s := range []string{
			c, c + "b", "a" + c + "b", "a" + c, c + c, "a/" + c, c + "/a", "a/b" + c + "c/d",
			"a@" + c, c + "@a", "a@b" + c, "a" + c + "@b", "a/" + c + "@b" + c,
			name16[:15] + c, c + name16[:15],
		} {
			checkAll(t, s)
		}
	}
}

// P3.1: Name, Path

func TestName(t *testing.T) {
	for s, want := range map[string]bool{
		"": false, "a": true, "z": true, "0": true, "9": true, "-": true, "_": true, "-_-": true,
		"az09-_": true, name16: true, name17: false, strings.Repeat("a", 100000): false,
		"A": false, "Z": false, "aB": false, "a/b": false, "/": false, "a@b": false, "@": false, "a.b": false, " ": false,
		"`": false, "{": false, ":": false, "é": false, "\x80": false, "\xff": false, "\x00": false, "a\n": false,
	} {
		if names.Name(s) != want {
			t.Errorf("Name(%.40q) = %v", s, !want)
		}
	}
	for n := range 40 {
		if got, want := names.Name(strings.Repeat("x", n)), n >= 1 && n <= 16; got != want {
			t.Errorf("Name of %d octets = %v", n, got)
		}
	}
}

// TestNameCountsOctets: 16 runes of two octets are no name, nor are 8 of them.
func TestNameCountsOctets(t *testing.T) {
	for _, n := range []int{1, 8, 9, 16} {
		if s := strings.Repeat("é", n); names.Name(s) || names.Path(s) {
			t.Errorf("Name or Path of %d times é = true", n)
		}
	}
}

func TestPath(t *testing.T) {
	for s, want := range map[string]bool{
		"": true, "a": true, "a/b": true, "a/b/c": true, "a/b/c/d": true, "a/b/c/d/e": false,
		path4: true, path4 + "/": false, path4 + "z": false, name17: false, "a/" + name17 + "/b": false,
		"/": false, "a/": false, "/a": false, "a//b": false, "//": false, "A/b": false, "a/B": false,
		"a@b": false, "@": false, "a/b@c": false, "é": false, "a/\xff": false,
		strings.Repeat("a/", 1<<20): false, strings.Repeat("/", 1<<20): false, strings.Repeat("a", 1<<20): false,
	} {
		if names.Path(s) != want {
			t.Errorf("Path(%.80q) = %v", s, !want)
		}
	}
	for n := 1; n < 12; n++ {
		s := strings.Repeat("ab/", n-1) + "ab"
		if got, want := names.Path(s), n <= 4; got != want {
			t.Errorf("Path of %d names = %v", n, got)
		}
	}
}

// P3.1: Canon

func TestCanon(t *testing.T) {
	for _, c := range []struct {
		s, want string
		err     api.Errno
	}{
		{"A/b/", "a/b", api.OK}, // the chapter's example
		{"", "", api.OK}, {"/", "", api.OK}, {"a", "a", api.OK}, {"a/", "a", api.OK}, {"A", "a", api.OK}, {"Z/", "z", api.OK},
		{"ABC-_09/xYz", "abc-_09/xyz", api.OK}, {"a/b/c/D/", "a/b/c/d", api.OK},
		{strings.ToUpper(name16), name16, api.OK}, {strings.ToUpper(path4) + "/", path4, api.OK}, {name16 + "/", name16, api.OK},
		{"//", "", api.ErrName}, {"a//", "", api.ErrName}, {"/a", "", api.ErrName}, {"/A/", "", api.ErrName}, {"///", "", api.ErrName},
		{"a//b", "", api.ErrName}, {"a/b//", "", api.ErrName}, {"a/b/c/d/e", "", api.ErrName}, {"a/b/c/d/e/", "", api.ErrName},
		{name17, "", api.ErrName}, {name17 + "/", "", api.ErrName}, {path4 + "//", "", api.ErrName},
		{"a@b", "", api.ErrName}, {"A@", "", api.ErrName}, {"@", "", api.ErrName}, {" a", "", api.ErrName}, {"a.b", "", api.ErrName},
		{"[", "", api.ErrName}, {"@/", "", api.ErrName}, {"é", "", api.ErrName}, {"É", "", api.ErrName}, {"\xc1", "", api.ErrName}, {"\xff/", "", api.ErrName},
		// The Kelvin sign and the I with a dot have k and i as their small ones: they are no octets A to Z.
		{"\u212a", "", api.ErrName}, {"a\u212a/", "", api.ErrName}, {"\u0130", "", api.ErrName},
	} {
		if got := canon(c.s); got != (answer{one: c.want, err: c.err}) {
			t.Errorf("Canon(%q) = %v, want %q, %d", c.s, got, c.want, c.err)
		}
	}
	if got := canon(strings.Repeat("A", 1<<20)); got != (answer{err: api.ErrName}) {
		t.Errorf("Canon of 2^20 times A = %v", got)
	}
}

// TestCanonIsItsOwnCanon: what Canon tells is a path, and its own Canon.
func TestCanonIsItsOwnCanon(t *testing.T) {
	told := 0
	check := func(s string) {
		path, err := names.Canon(s)
		if err != api.OK {
			return
		}
		told++
		if !names.Path(path) {
			t.Errorf("Canon(%q) = %q, which is no path", s, path)
		}
		if again := canon(path); again != (answer{one: path}) {
			t.Errorf("Canon(Canon(%q)) = %v, want %q", s, again, path)
		}
	}
	everyText(6, []string{"a", "Z", "/", "@", "9"}, check)
	for _, s := range allTexts() {
		check(s)
		check(strings.ToUpper(s))
		check(s + "/")
	}
	if told < 100 {
		t.Errorf("only %d texts have a Canon", told)
	}
}

func TestPathsAreTheirOwnCanon(t *testing.T) {
	for _, path := range edgePaths() {
		for _, s := range []string{path, path + "/", strings.ToUpper(path), strings.ToUpper(path) + "/"} {
			if got := canon(s); got != (answer{one: path}) {
				t.Errorf("Canon(%q) = %v, want %q", s, got, path)
			}
		}
	}
}

// P3.1: Parent

func TestParent(t *testing.T) {
	for path, want := range map[string]answer{
		"": {}, "a": {found: true}, name16: {found: true},
		"a/b": {one: "a", found: true}, "a/b/c": {one: "a/b", found: true}, "a/b/c/d": {one: "a/b/c", found: true},
		path4: {one: path4[:3*17-1], found: true}, name16 + "/b": {one: name16, found: true},
		"/": {}, "a/": {}, "/a": {}, "a//b": {}, "A": {}, "A/b": {}, "a/B": {}, "a/b/": {}, "a/b/c/d/e": {},
		name17: {}, "a/" + name17: {}, "a@b": {}, "a/b@c": {}, "a/@c": {}, "é/a": {}, "a/\xff": {}, "\x00": {},
	} {
		if got := parent(path); got != want {
			t.Errorf("Parent(%q) = %v, want %v", path, got, want)
		}
	}
}

// TestParentsEndAtTheRoot: from a path of n names it is n steps to the root.
func TestParentsEndAtTheRoot(t *testing.T) {
	for _, path := range edgePaths() {
		steps := 0
		at := path
		for found := at != ""; found; steps++ {
			above, ok := names.Parent(at)
			if !ok || !names.Path(above) || !names.Under(at, above) || names.Under(above, at) {
				t.Fatalf("Parent(%q) = %q, %v", at, above, ok)
			}
			at, found = above, above != ""
		}
		want := strings.Count(path, "/") + 1
		if path == "" {
			want = 0
		}
		if steps != want {
			t.Errorf("from %q to the root: %d steps", path, steps)
		}
	}
}

// P3.1: Under

func TestUnder(t *testing.T) {
	for _, c := range []struct {
		path, from string
		want       bool
	}{
		{"", "", true}, {"a", "", true}, {"a/b/c/d", "", true}, {path4, "", true},
		{"", "a", false}, {"a", "a", true}, {"a/b", "a/b", true}, {path4, path4, true},
		{"a/b", "a", true}, {"a/b/c", "a", true}, {"a/b/c/d", "a/b/c", true}, {path4, name16, true},
		{"a", "a/b", false}, {"a", "b", false}, {"b/a", "a", false}, {"a/b", "b", false},
		{"ab", "a", false}, {"ab/c", "a", false}, {"a/bc", "a/b", false}, {"a-b", "a", false}, {"a_/b", "a", false},
		{"a/b/c", "a/c", false}, {"a/b", "a/a", false},
		{"A", "", false}, {"A", "A", false}, {"a/", "a", false}, {"a/b/", "a", false}, {"a//b", "a", false}, {"a//b", "a/", false},
		{"a/b", "a/", false}, {"a/b", "/", false}, {"/a", "", false}, {"/a", "/", false}, {"/", "", false}, {"", "/", false}, {"/", "/", false},
		{"a/b/c/d/e", "a", false}, {"a/b/c/d/e", "", false}, {"a/b/c/d/e", "a/b/c/d/e", false}, {"a/b/c/d/e", "a/b/c/d", false},
		{name17, name17, false}, {name17, "", false}, {"a/" + name17, "a", false}, {"a", name17, false},
		{"a@b", "a", false}, {"a@b", "a@b", false}, {"a@b", "", false}, {"a", "a@b", false}, {"a/b@c", "a", false},
		{"é", "é", false}, {"\xff", "", false}, {"a/\xff", "a", false},
	} {
		if got := names.Under(c.path, c.from); got != c.want {
			t.Errorf("Under(%q, %q) = %v", c.path, c.from, got)
		}
	}
}

func TestUnderOfAllPairs(t *testing.T) {
	l := allTexts()
	everyText(5, []string{"a", "b", "/"}, func(s string) { l = append(l, s) })
	for _, path := range l {
		for _, from := range l {
			if got, want := names.Under(path, from), wantUnder(path, from); got != want {
				t.Fatalf("Under(%q, %q) = %v", path, from, got)
			}
		}
	}
}

// P3.2: Split, Join

func TestSplit(t *testing.T) {
	for s, want := range map[string]answer{
		"@a": {two: "a"}, "a@b": {one: "a", two: "b"}, "a/b/c/d@e": {one: "a/b/c/d", two: "e"},
		path4 + "@" + name16: {one: path4, two: name16}, "@" + name16: {two: name16}, "-@_": {one: "-", two: "_"},
		"": {err: api.ErrName}, "@": {err: api.ErrName}, "a": {err: api.ErrName}, "a/b": {err: api.ErrName},
		"a@": {err: api.ErrName}, "@@": {err: api.ErrName}, "@@a": {err: api.ErrName}, "@a@": {err: api.ErrName}, "a@@b": {err: api.ErrName},
		"a@b@": {err: api.ErrName}, "@a@b": {err: api.ErrName}, "a@b@c": {err: api.ErrName}, "a/b@c@d": {err: api.ErrName},
		"/@a": {err: api.ErrName}, "a/@b": {err: api.ErrName}, "/a@b": {err: api.ErrName}, "a//b@c": {err: api.ErrName},
		"a@b/c": {err: api.ErrName}, "a@/b": {err: api.ErrName}, "a@b/": {err: api.ErrName}, "a@/": {err: api.ErrName},
		"A@b": {err: api.ErrName}, "a@B": {err: api.ErrName}, "a.b@c": {err: api.ErrName}, "a@b.c": {err: api.ErrName},
		"a/b/c/d/e@f": {err: api.ErrName}, name17 + "@a": {err: api.ErrName}, "a@" + name17: {err: api.ErrName},
		"é@a": {err: api.ErrName}, "a@é": {err: api.ErrName}, "a@\xff": {err: api.ErrName}, "\x00@a": {err: api.ErrName},
	} {
		if got := split(s); got != want {
			t.Errorf("Split(%q) = %v, want %v", s, got, want)
		}
	}
	if got := split(strings.Repeat("@", 1<<20)); got != (answer{err: api.ErrName}) {
		t.Errorf("Split of 2^20 times @ = %v", got)
	}
}

// TestJoin: Join names no error: it joins what is no path and no name too.
func TestJoin(t *testing.T) {
	for _, c := range []struct{ path, name, want string }{
		{"a/b", "c", "a/b@c"}, {"", "c", "@c"}, {"a", "", "a@"}, {"", "", "@"}, {path4, name16, path4 + "@" + name16},
		{"A/", "b c", "A/@b c"}, {"a@b", "c@d", "a@b@c@d"}, {"@", "@", "@@@"}, {"/", "/", "/@/"},
		{name17, "x", name17 + "@x"}, {"a/b/c/d/e", "x", "a/b/c/d/e@x"}, {"\xff", "\x00", "\xff@\x00"}, {"é", "é", "é@é"},
	} {
		if got := names.Join(c.path, c.name); got != c.want {
			t.Errorf("Join(%q, %q) = %q, want %q", c.path, c.name, got, c.want)
		}
	}
}

// TestJoinComesBack: from Split, if they are a path and a name; else ErrName.
func TestJoinComesBack(t *testing.T) {
	for _, path := range allTexts() {
		for _, name := range allTexts() {
			want := answer{one: path, two: name}
			if !aPath.MatchString(path) || !aName.MatchString(name) {
				want = answer{err: api.ErrName}
			}
			if got := split(names.Join(path, name)); got != want {
				t.Fatalf("Split(Join(%q, %q)) = %v, want %v", path, name, got, want)
			}
		}
	}
}

func TestSplitComesBack(t *testing.T) {
	for _, s := range snapTexts() {
		path, name, err := names.Split(s)
		if err != api.OK || !names.Path(path) || !names.Name(name) || names.Join(path, name) != s {
			t.Errorf("Split(%q) = %q, %q, %d", s, path, name, err)
		}
	}
}

// P3.3

// calls: all calls, as what they tell of one text, or of two that are halves
// of it.
func calls() map[string]func(s string) answer {
	half := func(s string) (string, string) {
		one, two, _ := strings.Cut(s, "@")
		return one, two
	}
	return map[string]func(s string) answer{
		"Name":   func(s string) answer { return answer{found: names.Name(s)} },
		"Path":   func(s string) answer { return answer{found: names.Path(s)} },
		"Canon":  canon,
		"Parent": parent,
		"Under":  func(s string) answer { one, two := half(s); return answer{found: names.Under(one, two)} },
		"Split":  split,
		"Join":   func(s string) answer { one, two := half(s); return answer{one: names.Join(one, two)} },
	}
}

// overwritable: text as a string, and the octets in which it stands.
func overwritable(text string) (string, []byte) {
	b := append([]byte(text), bytes.Repeat([]byte{'x'}, 16)...)
	return unsafe.String(&b[0], len(text)), b
}

func (a answer) clone() answer {
	a.one, a.two = strings.Clone(a.one), strings.Clone(a.two)
	return a
}

// TestAnswersShareNothingWithArguments: nor is an argument changed.
func TestAnswersShareNothingWithArguments(t *testing.T) {
	for name, call := range calls() {
		for _, text := range append(allTexts(), "A/B/", "ABC", "a/b/c/") {
			s, whole := overwritable(text)
			before := string(whole)
			got := call(s)
			if string(whole) != before {
				t.Errorf("%s(%q) changed what it was handed: %q", name, text, whole)
			}
			want := got.clone()
			for i := range whole {
				whole[i] = '#'
			}
			if got != want {
				t.Errorf("%s(%q) = %v, and %v once its argument is written over", name, text, want, got)
			}
		}
	}
}

// TestAnswersShareNothingWithEachOther: neither two texts of one answer, nor
// those of two answers.
func TestAnswersShareNothingWithEachOther(t *testing.T) {
	overlap := func(one, two string) bool {
		if one == "" || two == "" {
			return false
		}
		a, b := uintptr(unsafe.Pointer(unsafe.StringData(one))), uintptr(unsafe.Pointer(unsafe.StringData(two)))
		return a < b+uintptr(len(two)) && b < a+uintptr(len(one))
	}
	for _, s := range []string{"ab/cd@ef", path4 + "@" + name16} {
		one, two := split(s), split(s)
		if overlap(one.one, one.two) || overlap(one.one, two.one) || overlap(one.two, two.two) {
			t.Errorf("answers of Split(%q) share memory", s)
		}
	}
	for name, call := range map[string]func(string) answer{"Canon": canon, "Parent": parent} {
		if one, two := call("ab/cd/ef"), call("ab/cd/ef"); one.one == "" || overlap(one.one, two.one) {
			t.Errorf("two answers of %s share memory", name)
		}
	}
	if one, two := names.Join("ab", "cd"), names.Join("ab", "cd"); overlap(one, two) {
		t.Error("two answers of Join share memory")
	}
}

// TestWhatIsHandedInIsNotKept: a call goes by its text as it is now, whatever
// it was before in the same memory, and whatever was asked between.
func TestWhatIsHandedInIsNotKept(t *testing.T) {
	texts := []string{"a/b", "A/b", "a/B", "a//", "a@b", "@ab", "abc", "a/@", "ab@", "a/b"}
	for name, call := range calls() {
		s, whole := overwritable(texts[0])
		for _, text := range texts {
			copy(whole, text)
			want := call(strings.Clone(text))
			for _, other := range []string{"", "z/y", "@", name17} {
				if got := call(s); got != want {
					t.Errorf("%s(%q) = %v, want %v", name, text, got, want)
				}
				call(other)
			}
		}
	}
}
