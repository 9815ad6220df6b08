package props_test

import (
	"fmt"
	"math/rand"
	"regexp"
	"slices"
	"strings"
	"testing"

	"godown/api"
	"godown/props"
)

// maxProps: as the document writes it.
const maxProps = 8

// The document's words, as patterns.
var (
	namePattern  = regexp.MustCompile(`\A[a-z0-9_-]{1,16}\z`)
	valuePattern = regexp.MustCompile(`\A[ -~]{0,32}\z`)
)

// wantCheck: how many, each by itself, then each with all those ahead of it.
func wantCheck(l []api.Prop) api.Errno {
	if len(l) > maxProps {
		return api.ErrState
	}
	for i, p := range l {
		if !namePattern.MatchString(p.Name) || !valuePattern.MatchString(p.Value) {
			return api.ErrState
		}
		for _, ahead := range l[:i] {
			if strings.Compare(ahead.Name, p.Name) >= 0 {
				return api.ErrState
			}
		}
	}
	return api.OK
}

// sorted: the properties by their names.
func sorted(l []api.Prop) []api.Prop {
	out := slices.Clone(l)
	slices.SortFunc(out, func(a, b api.Prop) int { return strings.Compare(a.Name, b.Name) })
	return out
}

// without: the properties of other names.
func without(l []api.Prop, name string) []api.Prop {
	return slices.DeleteFunc(slices.Clone(l), func(p api.Prop) bool { return p.Name == name })
}

func wantSet(l []api.Prop, name string, value string) ([]api.Prop, api.Errno) {
	switch {
	case wantCheck(l) != api.OK:
		return nil, api.ErrState
	case !namePattern.MatchString(name):
		return nil, api.ErrName
	case !valuePattern.MatchString(value):
		return nil, api.ErrState
	}
	out := append(without(l, name), api.Prop{Name: name, Value: value})
	if len(out) > maxProps {
		return nil, api.ErrCount
	}
	return sorted(out), api.OK
}

func wantUnset(l []api.Prop, name string) ([]api.Prop, api.Errno) {
	if wantCheck(l) != api.OK {
		return nil, api.ErrState
	}
	out := without(l, name)
	if len(out) == len(l) {
		return nil, api.ErrNone
	}
	return out, api.OK
}

// list: properties, each told as name=value.
func list(l ...string) []api.Prop {
	var out []api.Prop
	for _, s := range l {
		name, value, _ := strings.Cut(s, "=")
		out = append(out, api.Prop{Name: name, Value: value})
	}
	return out
}

// span: n properties, b to d and on, each second letter, so that others fit
// ahead, between and behind.
func span(n int) []api.Prop {
	var out []api.Prop
	for i := range n {
		out = append(out, api.Prop{Name: string(rune('b' + 2*i)), Value: fmt.Sprint("of ", i)})
	}
	return out
}

// good: properties that may be.
func good() map[string][]api.Prop {
	all := ""
	for c := byte(32); c <= 126; c++ {
		all += string(rune(c))
	}
	return map[string][]api.Prop{
		"none":                 nil,
		"one":                  list("c=1"),
		"two":                  list("b=1", "d=2"),
		"7":                    span(7),
		"8":                    span(8),
		"names of 1 octet":     list("-=a", "0=b", "9=c", "_=d", "a=e", "z=f"),
		"a longest name":       list(strings.Repeat("b", 16) + "=1"),
		"names of all lengths": list("c=1", "cc=2", "ccc=3", strings.Repeat("c", 15)+"=4", strings.Repeat("c", 16)+"=5"),
		"values of no octet":   list("b=", "d="),
		"values of 31 and 32":  list("b="+strings.Repeat("x", 31), "d="+strings.Repeat("y", 32)),
		"octets 32 and 126":    list("b= ", "c=~", "d= ~", "e="+strings.Repeat(" ", 32), "f="+strings.Repeat("~", 32)),
		"all octets":           {{Name: "b", Value: all[:32]}, {Name: "c", Value: all[32:64]}, {Name: "d", Value: all[64:]}},
		"one value many times": list("b=on", "c=on", "d=on"),
		"names as values":      list("b=c", "c=b", "d=d"),
	}
}

// noNames: and no paths' parts are.
func noNames() []string {
	return []string{"", "A", "bC", "b c", " b", "b ", "b/c", "b@c", "b.c", "b=c", "é", "b\x00", "\xff", "b\n", "`", "{", ":", "^", ",", strings.Repeat("b", 17), strings.Repeat("b", 1000)}
}

func noValues() []string {
	return []string{"\x1f", "\x7f", "on\x1f", "\x7fon", "o\x00n", "on\n", "\t", "é", "\x80", "\xff", strings.Repeat("x", 33), strings.Repeat("x", 32) + "\x1f", strings.Repeat("é", 16), strings.Repeat("x", 1000)}
}

// bad: properties that may not be, each fault at each place.
func bad() map[string][]api.Prop {
	out := map[string][]api.Prop{"9": span(9), "10": span(10), "many": nil}
	for i := range 1000 {
		out["many"] = append(out["many"], api.Prop{Name: fmt.Sprintf("n%04d", i)})
	}
	for i := range 8 {
		for k, s := range noNames() {
			l := span(8)
			l[i].Name = s
			out[fmt.Sprintf("name %d for none, at %d", k, i)] = l
		}
		for k, s := range noValues() {
			l := span(8)
			l[i].Value = s
			out[fmt.Sprintf("value %d that may not be, at %d", k, i)] = l
		}
	}
	for i := range 7 {
		fall, twice := span(8), span(8)
		fall[i], fall[i+1] = fall[i+1], fall[i]
		twice[i+1].Name = twice[i].Name
		out[fmt.Sprintf("a fall at %d", i)] = fall
		out[fmt.Sprintf("a name twice, at %d", i)] = twice
	}
	out["one name, no value's"] = list("b=\x1f")
	out["one value, no name's"] = list("=1")
	out["the same twice"] = list("b=1", "b=1")
	out["twice, not side by side"] = list("b=1", "c=1", "b=1")
	out["a longer name ahead"] = list("bb=1", "b=1")
	out["by letters, not by octets"] = list("a=1", "_=1")
	out["small ones ahead of figures"] = list("a=1", "9=1")
	return out
}

// lists: those that may be and those that may not.
func lists() map[string][]api.Prop {
	out := good()
	for what, l := range bad() {
		out["may not be: "+what] = l
	}
	return out
}

// some: properties of few names and values, so that many are met again.
func some(r *rand.Rand, names string) []api.Prop {
	var out []api.Prop
	for _, i := range r.Perm(len(names))[:r.Intn(min(len(names), maxProps)+1)] {
		out = append(out, api.Prop{Name: names[i : i+1], Value: fmt.Sprint(r.Intn(5))})
	}
	return sorted(out)
}

// P12.1

func TestCheck(t *testing.T) {
	for what, l := range good() {
		if err := props.Check(l); err != api.OK || wantCheck(l) != api.OK {
			t.Errorf("Check of %s: %d", what, err)
		}
	}
	for what, l := range bad() {
		if err := props.Check(l); err != api.ErrState || wantCheck(l) != api.ErrState {
			t.Errorf("Check of properties that may not be (%s): %d", what, err)
		}
	}
}

// TestCheckOfEachOctet: in names and in values.
func TestCheckOfEachOctet(t *testing.T) {
	for c := range 256 {
		s := string([]byte{byte(c)})
		for _, k := range []string{s, s + "b", "b" + s, "b" + s + "b"} {
			want := api.ErrState
			if strings.Contains("abcdefghijklmnopqrstuvwxyz0123456789-_", s) {
				want = api.OK
			}
			if err := props.Check([]api.Prop{{Name: k}}); err != want {
				t.Errorf("Check of a name %q: %d, want %d", k, err, want)
			}
			want = api.ErrState
			if c >= 32 && c <= 126 {
				want = api.OK
			}
			if err := props.Check([]api.Prop{{Name: "b", Value: k}}); err != want {
				t.Errorf("Check of a value %q: %d, want %d", k, err, want)
			}
		}
	}
}

func TestCheckOfEachLength(t *testing.T) {
	for n := range 80 {
		want := api.ErrState
		if n >= 1 && n <= 16 {
			want = api.OK
		}
		if err := props.Check([]api.Prop{{Name: strings.Repeat("b", n)}}); err != want {
			t.Errorf("Check of a name of %d octets: %d, want %d", n, err, want)
		}
		want = api.ErrState
		if n <= 32 {
			want = api.OK
		}
		if err := props.Check([]api.Prop{{Name: "b", Value: strings.Repeat("x", n)}}); err != want {
			t.Errorf("Check of a value of %d octets: %d, want %d", n, err, want)
		}
		want = api.ErrState
		if n <= 8 {
			want = api.OK
		}
		var l []api.Prop
		for i := range n {
			l = append(l, api.Prop{Name: fmt.Sprintf("%02d", i)})
		}
		if err := props.Check(l); err != want {
			t.Errorf("Check of %d properties: %d, want %d", n, err, want)
		}
	}
}

// TestCheckOfEachOrder: of up to four names.
func TestCheckOfEachOrder(t *testing.T) {
	names := []string{"-", "0", "00", "9", "_", "a", "a-", "aa", "b"}
	var grow func(l []api.Prop)
	grow = func(l []api.Prop) {
		if err := props.Check(l); err != wantCheck(l) {
			t.Errorf("Check of %v: %d", l, err)
		}
		if len(l) == 4 {
			return
		}
		for _, s := range names {
			grow(append(slices.Clone(l), api.Prop{Name: s}))
		}
	}
	grow(nil)
}

func TestGet(t *testing.T) {
	for what, l := range good() {
		for _, p := range l {
			if s, is := props.Get(l, p.Name); !is || s != p.Value {
				t.Errorf("Get of %q of %s: %q, %v", p.Name, what, s, is)
			}
		}
		for _, s := range append(noNames(), "a0", "bx", "y", "-x", strings.Repeat("b", 15)) {
			if s, is := props.Get(l, s); is || s != "" {
				t.Errorf("Get of none of %s: %q, %v", what, s, is)
			}
		}
	}
}

// TestGetOfAnyList: of properties that may not be, too; of several of one name
// the first.
func TestGetOfAnyList(t *testing.T) {
	for what, l := range lists() {
		for i, p := range l {
			want := p.Value
			for _, ahead := range slices.Backward(l[:i]) {
				if ahead.Name == p.Name {
					want = ahead.Value
				}
			}
			if s, is := props.Get(l, p.Name); !is || s != want {
				t.Errorf("Get of %q of %s: %q, %v, want %q", p.Name, what, s, is, want)
			}
		}
	}
	l := list("d=1", "b=2", "d=3", "=4", "B=\x00")
	for name, want := range map[string]string{"d": "1", "b": "2", "": "4", "B": "\x00"} {
		if s, is := props.Get(l, name); !is || s != want {
			t.Errorf("Get of %q: %q, %v, want %q", name, s, is, want)
		}
	}
}

func TestSame(t *testing.T) {
	all := lists()
	for what, l := range all {
		for other, k := range all {
			if got := props.Same(l, k); got != (fmt.Sprintf("%q", l) == fmt.Sprintf("%q", k)) {
				t.Errorf("Same of %s and %s: %v", what, other, got)
			}
		}
		if !props.Same(l, slices.Clone(l)) || !props.Same(append([]api.Prop{}, l...), l) {
			t.Errorf("Same of %s and itself: false", what)
		}
		for i := range l[:min(len(l), 10)] {
			k := slices.Clone(l)
			k[i].Name += "x"
			if props.Same(l, k) || props.Same(k, l) {
				t.Errorf("Same of %s with another name at %d: true", what, i)
			}
			k = slices.Clone(l)
			k[i].Value += "x"
			if props.Same(l, k) || props.Same(k, l) {
				t.Errorf("Same of %s with another value at %d: true", what, i)
			}
			if props.Same(l, l[:i]) || props.Same(l[:i], l) {
				t.Errorf("Same of %s and its first %d: true", what, i)
			}
		}
	}
	if props.Same(list("b=1", "c=2"), list("c=2", "b=1")) || props.Same(list("b=c"), list("bc=")) {
		t.Error("Same of lists that are not one: true")
	}
}

func mustSet(t *testing.T, what string, l []api.Prop, name string, value string) {
	t.Helper()
	want, wantErr := wantSet(l, name, value)
	got, err := props.Set(l, name, value)
	if err != wantErr || !slices.Equal(got, want) || err != api.OK && got != nil {
		t.Errorf("Set of %q to %q in %s = %q, %d, want %q, %d", name, value, what, got, err, want, wantErr)
	}
}

func TestSet(t *testing.T) {
	longest := strings.Repeat("b", 16)
	values := []string{"", "1", " ", "~", "of 2", strings.Repeat(" ", 32), strings.Repeat("~", 32)}
	for what, l := range good() {
		for _, value := range values {
			for _, name := range []string{"-", "0", "_", "a", "b", longest, "c", "d", "e", "h", "i", "n", "o", "p", "q", "z", strings.Repeat("z", 16)} {
				mustSet(t, what, l, name, value)
			}
			for _, p := range l {
				mustSet(t, what, l, p.Name, value)
				mustSet(t, what, l, p.Name, p.Value)
			}
		}
	}
}

func TestSetByHand(t *testing.T) {
	two := list("b=1", "d=2")
	for _, k := range []struct {
		l           []api.Prop
		name, value string
		want        []api.Prop
		err         api.Errno
	}{
		{nil, "c", "9", list("c=9"), api.OK},
		{nil, "c", "", list("c="), api.OK},
		{two, "a", "9", list("a=9", "b=1", "d=2"), api.OK},
		{two, "b", "9", list("b=9", "d=2"), api.OK},
		{two, "c", "9", list("b=1", "c=9", "d=2"), api.OK},
		{two, "d", "9", list("b=1", "d=9"), api.OK},
		{two, "d", "", list("b=1", "d="), api.OK},
		{two, "e", "9", list("b=1", "d=2", "e=9"), api.OK},
		{two, "bb", "9", list("b=1", "bb=9", "d=2"), api.OK},
		{two, "_", "9", list("_=9", "b=1", "d=2"), api.OK},
		{span(7), "a", "9", append(list("a=9"), span(7)...), api.OK},
		{span(7), "q", "9", append(span(7), list("q=9")...), api.OK},
		{span(8), "a", "9", nil, api.ErrCount},
		{span(8), "c", "9", nil, api.ErrCount},
		{span(8), "z", "9", nil, api.ErrCount},
		{span(8), "b", "of 0", span(8), api.OK},
		{span(8), "b", "9", append(list("b=9"), span(8)[1:]...), api.OK},
		{span(8), "p", "9", append(span(7), list("p=9")...), api.OK},
	} {
		if got, err := props.Set(k.l, k.name, k.value); err != k.err || !slices.Equal(got, k.want) {
			t.Errorf("Set(%v, %q, %q) = %v, %d, want %v, %d", k.l, k.name, k.value, got, err, k.want, k.err)
		}
	}
}

// TestSetRefuses: ErrState of the list, ErrName, ErrState of the value,
// ErrCount, in this order.
func TestSetRefuses(t *testing.T) {
	for what, l := range good() {
		for _, name := range append(noNames(), "c", "d", "z") {
			for _, value := range append(noValues(), "", "1") {
				mustSet(t, what, l, name, value)
			}
		}
	}
	for what, l := range bad() {
		for _, name := range []string{"", "B", "b", "z", strings.Repeat("b", 17)} {
			for _, value := range []string{"", "1", "\x1f", strings.Repeat("x", 33)} {
				mustSet(t, what, l, name, value)
			}
		}
	}
	for _, k := range []struct {
		l           []api.Prop
		name, value string
		want        api.Errno
	}{
		{list("b=1", "b=2"), "B", "\x7f", api.ErrState},
		{list("b=1", "b=2"), "B", "1", api.ErrState},
		{list("b=1", "b=2"), "b", "1", api.ErrState},
		{span(9), "b", "1", api.ErrState},
		{span(9), "z", "1", api.ErrState},
		{span(9), "", "1", api.ErrState},
		{span(8), "", "\x7f", api.ErrName},
		{span(8), "", "1", api.ErrName},
		{span(8), "z", "\x7f", api.ErrState},
		{span(8), "z", "1", api.ErrCount},
		{span(2), "B", "\x1f", api.ErrName},
		{nil, "", "", api.ErrName},
		{nil, strings.Repeat("b", 17), strings.Repeat("x", 33), api.ErrName},
		{nil, strings.Repeat("b", 16), strings.Repeat("x", 33), api.ErrState},
		{nil, "b", "\x1f", api.ErrState},
		{nil, "b", "\x7f", api.ErrState},
	} {
		if got, err := props.Set(k.l, k.name, k.value); err != k.want || got != nil {
			t.Errorf("Set(%v, %q, %q) = %v, %d, want %d", k.l, k.name, k.value, got, err, k.want)
		}
	}
}

func mustUnset(t *testing.T, what string, l []api.Prop, name string) {
	t.Helper()
	want, wantErr := wantUnset(l, name)
	got, err := props.Unset(l, name)
	if err != wantErr || !slices.Equal(got, want) || len(want) == 0 && got != nil {
		t.Errorf("Unset of %q in %s = %q, %d, want %q, %d", name, what, got, err, want, wantErr)
	}
}

func TestUnset(t *testing.T) {
	for what, l := range lists() {
		for _, name := range append(noNames(), "-", "0", "a", "b", "bb", "c", "d", "p", "q", "z", strings.Repeat("b", 15), strings.Repeat("b", 16)) {
			mustUnset(t, what, l, name)
		}
		for _, p := range l[:min(len(l), 10)] {
			mustUnset(t, what, l, p.Name)
			mustUnset(t, what, l, p.Value)
		}
	}
}

func TestUnsetByHand(t *testing.T) {
	l := list("b=1", "c=", "e=1")
	for _, k := range []struct {
		l    []api.Prop
		name string
		want []api.Prop
		err  api.Errno
	}{
		{l, "b", list("c=", "e=1"), api.OK},
		{l, "c", list("b=1", "e=1"), api.OK},
		{l, "e", list("b=1", "c="), api.OK},
		{l[:1], "b", nil, api.OK},
		{l, "a", nil, api.ErrNone},
		{l, "d", nil, api.ErrNone},
		{l, "f", nil, api.ErrNone},
		{l, "1", nil, api.ErrNone},
		{l, "", nil, api.ErrNone}, // the chapter names no ErrName
		{l, "B", nil, api.ErrNone},
		{nil, "b", nil, api.ErrNone},
		{nil, "", nil, api.ErrNone},
		{span(8), "b", span(8)[1:], api.OK},
		{span(8), "p", span(7), api.OK},
		{span(9), "b", nil, api.ErrState},
		{span(9), "z", nil, api.ErrState},
		{list("b=1", "b=2"), "b", nil, api.ErrState},
		{list("b=1", "B=2"), "B", nil, api.ErrState},
		{list("c=1", "b=2"), "z", nil, api.ErrState},
		{list("b=\x1f"), "b", nil, api.ErrState},
	} {
		if got, err := props.Unset(k.l, k.name); err != k.err || !slices.Equal(got, k.want) {
			t.Errorf("Unset(%v, %q) = %v, %d, want %v, %d", k.l, k.name, got, err, k.want, k.err)
		}
	}
}

// TestSetAndUnset: histories of both, held against a table.
func TestSetAndUnset(t *testing.T) {
	r := rand.New(rand.NewSource(12))
	for range 300 {
		var l []api.Prop
		table := map[string]string{}
		for range 60 {
			name := string(rune('a' + r.Intn(11)))
			value := fmt.Sprint(r.Intn(9))
			_, is := table[name]
			var got []api.Prop
			var err, want api.Errno
			if r.Intn(3) > 0 {
				got, err = props.Set(l, name, value)
				if !is && len(table) == maxProps {
					want = api.ErrCount
				} else {
					table[name] = value
				}
			} else {
				got, err = props.Unset(l, name)
				if !is {
					want = api.ErrNone
				}
				delete(table, name)
			}
			if err != want {
				t.Fatalf("%q in %v: %d, want %d", name, l, err, want)
			}
			if err == api.OK {
				l = got
			}
			if props.Check(l) != api.OK || len(l) != len(table) {
				t.Fatalf("%v, want %v", l, table)
			}
			for name, value := range table {
				if s, is := props.Get(l, name); !is || s != value {
					t.Fatalf("%v, want %v", l, table)
				}
			}
		}
	}
}
