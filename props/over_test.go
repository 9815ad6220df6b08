package props_test

import (
	"fmt"
	"math/rand"
	"slices"
	"strings"
	"testing"

	"godown/api"
	"godown/props"
)

// last: what the last list that has the name says, looked for from the end.
func last(name string, l [][]api.Prop) string {
	for _, list := range slices.Backward(l) {
		for _, p := range list {
			if p.Name == name {
				return p.Value
			}
		}
	}
	return ""
}

// wantOver: the names of all lists, sorted, each once, and of each the value.
func wantOver(l ...[]api.Prop) ([]api.Prop, api.Errno) {
	var all []string
	for _, list := range l {
		if wantCheck(list) != api.OK {
			return nil, api.ErrState
		}
		for _, p := range list {
			all = append(all, p.Name)
		}
	}
	slices.Sort(all)
	all = slices.Compact(all)
	if len(all) > maxProps {
		return nil, api.ErrCount
	}
	var out []api.Prop
	for _, name := range all {
		out = append(out, api.Prop{Name: name, Value: last(name, l)})
	}
	return out, api.OK
}

func mustOver(t *testing.T, what string, l ...[]api.Prop) {
	t.Helper()
	want, wantErr := wantOver(l...)
	got, err := props.Over(l...)
	if err != wantErr || !slices.Equal(got, want) || len(want) == 0 && got != nil {
		t.Fatalf("Over of %s = %q, %d, want %q, %d", what, got, err, want, wantErr)
	}
}

// TestExample: the chapter's.
func TestExample(t *testing.T) {
	l, err := props.Over([]api.Prop{{Name: "a", Value: "1"}}, []api.Prop{{Name: "a", Value: "2"}})
	if err != api.OK || !slices.Equal(l, []api.Prop{{Name: "a", Value: "2"}}) {
		t.Errorf("Over of a=1 and a=2 = %v, %d", l, err)
	}
}

func TestOverByHand(t *testing.T) {
	half := list("b=1", "d=2", "f=3", "h=4")
	for what, k := range map[string]struct {
		l    [][]api.Prop
		want []api.Prop
		err  api.Errno
	}{
		"no list":                       {nil, nil, api.OK},
		"one of none":                   {[][]api.Prop{nil}, nil, api.OK},
		"three of none":                 {[][]api.Prop{nil, {}, nil}, nil, api.OK},
		"one":                           {[][]api.Prop{half}, half, api.OK},
		"one of 8":                      {[][]api.Prop{span(8)}, span(8), api.OK},
		"the same twice":                {[][]api.Prop{half, half}, half, api.OK},
		"the same of 8 three times":     {[][]api.Prop{span(8), span(8), span(8)}, span(8), api.OK},
		"one, then none":                {[][]api.Prop{half, nil}, half, api.OK},
		"none, then one":                {[][]api.Prop{nil, half}, half, api.OK},
		"a later one's value":           {[][]api.Prop{half, list("d=9")}, list("b=1", "d=9", "f=3", "h=4"), api.OK},
		"a later one's value of none":   {[][]api.Prop{half, list("d=")}, list("b=1", "d=", "f=3", "h=4"), api.OK},
		"the last one's value of three": {[][]api.Prop{list("b=1"), list("b=3"), list("b=2")}, list("b=2"), api.OK},
		"not the last list, but the last one that has it": {[][]api.Prop{list("b=1"), list("b=3"), list("c=2")}, list("b=3", "c=2"), api.OK},
		"a first one's behind all":                        {[][]api.Prop{list("z=1"), list("a=2")}, list("a=2", "z=1"), api.OK},
		"names between":                                   {[][]api.Prop{half, list("c=9", "d=8", "e=7"), list("a=6", "h=5")}, list("a=6", "b=1", "c=9", "d=8", "e=7", "f=3", "h=5"), api.OK},
		"8 names of two":                                  {[][]api.Prop{half, list("c=5", "e=6", "g=7", "i=8")}, list("b=1", "c=5", "d=2", "e=6", "f=3", "g=7", "h=4", "i=8"), api.OK},
		"8 names of two, with shared ones":                {[][]api.Prop{span(8), list("b=9", "p=8")}, append(append(list("b=9"), span(8)[1:7]...), list("p=8")...), api.OK},
		"9 names of two":                                  {[][]api.Prop{half, list("c=5", "e=6", "g=7", "i=8", "k=9")}, nil, api.ErrCount},
		"9 names of two, one by the first":                {[][]api.Prop{list("z=1"), span(8)}, nil, api.ErrCount},
		"9 names of two, one by the last":                 {[][]api.Prop{span(8), list("a=1")}, nil, api.ErrCount},
		"9 names of nine":                                 {[][]api.Prop{list("a="), list("b="), list("c="), list("d="), list("e="), list("f="), list("g="), list("h="), list("i=")}, nil, api.ErrCount},
		"16 names of two":                                 {[][]api.Prop{span(8), list("a=", "c=", "e=", "g=", "i=", "k=", "m=", "o=")}, nil, api.ErrCount},
		"9 names, then no more":                           {[][]api.Prop{span(8), list("a=1"), nil, list("b=1")}, nil, api.ErrCount},
		"9 in the first":                                  {[][]api.Prop{span(9)}, nil, api.ErrState},
		"9 in a later one":                                {[][]api.Prop{nil, span(9)}, nil, api.ErrState},
		"9 names, then none that may be":                  {[][]api.Prop{span(8), list("a=1"), list("b=\x7f")}, nil, api.ErrState},
		"none that may be, then 9 names":                  {[][]api.Prop{list("b=\x7f"), span(8), list("a=1")}, nil, api.ErrState},
		"a value that may not be, then one that may":      {[][]api.Prop{list("b=\x1f"), list("b=1")}, nil, api.ErrState},
		"a name that falls, in the first":                 {[][]api.Prop{list("c=1", "b=2"), half}, nil, api.ErrState},
		"a name that falls, in the last":                  {[][]api.Prop{half, list("c=1", "b=2")}, nil, api.ErrState},
		"a name twice, in the last":                       {[][]api.Prop{half, list("b=1", "b=1")}, nil, api.ErrState},
		"a name for none, between":                        {[][]api.Prop{half, list("B=1"), half}, nil, api.ErrState},
		"no name, between":                                {[][]api.Prop{half, list("=1"), half}, nil, api.ErrState},
	} {
		got, err := props.Over(k.l...)
		if err != k.err || !slices.Equal(got, k.want) || len(k.want) == 0 && got != nil {
			t.Errorf("Over of %s = %q, %d, want %q, %d", what, got, err, k.want, k.err)
		}
		mustOver(t, what, k.l...)
	}
}

// TestOverOfAllPairs: of lists that may be and that may not, each with each,
// and with a third one.
func TestOverOfAllPairs(t *testing.T) {
	all := lists()
	for what, l := range all {
		mustOver(t, what, l)
		mustOver(t, what+", three times", l, l, l)
		for other, k := range good() {
			mustOver(t, what+" and "+other, l, k)
			mustOver(t, other+" and "+what, k, l)
			mustOver(t, what+" between "+other, k, l, k)
		}
	}
	for what, l := range bad() {
		for _, k := range [][]api.Prop{list("b=\x7f"), list("c=", "b="), span(9)} {
			mustOver(t, what+" and another that may not be", l, k)
			mustOver(t, what+" behind another that may not be", k, l)
		}
	}
}

// TestOverOfAllSmallLists: three names, two values: each list three times.
func TestOverOfAllSmallLists(t *testing.T) {
	small := [][]api.Prop{nil}
	for _, name := range []string{"a", "b", "c"} {
		for _, l := range slices.Clone(small) {
			for _, value := range []string{"1", "2"} {
				small = append(small, append(slices.Clone(l), api.Prop{Name: name, Value: value}))
			}
		}
	}
	if len(small) != 27 {
		t.Fatalf("%d small lists", len(small))
	}
	for _, a := range small {
		mustOver(t, fmt.Sprint(a), a)
		for _, b := range small {
			mustOver(t, fmt.Sprint(a, b), a, b)
			for _, c := range small {
				mustOver(t, fmt.Sprint(a, b, c), a, b, c)
			}
		}
	}
}

// TestOverOfManyLists: with 8 names in all and with some more.
func TestOverOfManyLists(t *testing.T) {
	r := rand.New(rand.NewSource(121))
	told := map[api.Errno]int{}
	for range 20000 {
		names := "abcdefghij"[:1+r.Intn(10)]
		l := make([][]api.Prop, r.Intn(7))
		for i := range l {
			l[i] = some(r, names)
			if r.Intn(60) == 0 && len(l[i]) > 0 {
				l[i][r.Intn(len(l[i]))].Value = "\x7f"
			}
		}
		mustOver(t, fmt.Sprint(l), l...)
		_, err := props.Over(l...)
		told[err]++
	}
	if told[api.OK] < 1000 || told[api.ErrCount] < 1000 || told[api.ErrState] < 500 {
		t.Errorf("too few of a kind: %v", told)
	}
}

// TestOverOfVeryManyLists: the last one counts, and the last one's error.
func TestOverOfVeryManyLists(t *testing.T) {
	l := make([][]api.Prop, 200000)
	for i := range l {
		l[i] = []api.Prop{{Name: string(rune('a' + i%8)), Value: fmt.Sprint(i)}}
	}
	mustOver(t, "many", l...)
	l = append(l, list("z=1"))
	mustOver(t, "many, of 9 names", l...)
	l = append(l, list("z=\n"))
	mustOver(t, "many, one that may not be", l...)
}

// TestOverGoesOn: of three lists, it is Over of two of them, and the third.
func TestOverGoesOn(t *testing.T) {
	r := rand.New(rand.NewSource(122))
	for range 3000 {
		a, b, c := some(r, "abcdefgh"), some(r, "abcdefgh"), some(r, "abcdefgh")
		all, err := props.Over(a, b, c)
		if err != api.OK {
			t.Fatalf("Over(%v, %v, %v): %d", a, b, c, err)
		}
		ab, _ := props.Over(a, b)
		bc, _ := props.Over(b, c)
		left, _ := props.Over(ab, c)
		right, _ := props.Over(a, bc)
		if !slices.Equal(all, left) || !slices.Equal(all, right) || props.Check(all) != api.OK {
			t.Fatalf("Over(%v, %v, %v) = %v, by pairs %v and %v", a, b, c, all, left, right)
		}
	}
}

// P12.2

func wantText(l []api.Prop) []string {
	out := make([]string, 2*len(l))
	for i, p := range l {
		out[2*i], out[2*i+1] = p.Name, p.Value
	}
	return out
}

// wantRead: the properties that have these texts, if they may be.
func wantRead(l []string) ([]api.Prop, api.Errno) {
	if len(l)%2 == 1 {
		return nil, api.ErrShort
	}
	var out []api.Prop
	for i := range len(l) / 2 {
		out = append(out, api.Prop{Name: l[2*i], Value: l[2*i+1]})
	}
	if wantCheck(out) != api.OK {
		return nil, api.ErrState
	}
	return out, api.OK
}

func mustRead(t *testing.T, what string, l []string) {
	t.Helper()
	want, wantErr := wantRead(l)
	got, err := props.Read(l)
	if err != wantErr || !slices.Equal(got, want) || len(want) == 0 && got != nil {
		t.Errorf("Read of %s = %q, %d, want %q, %d", what, got, err, want, wantErr)
	}
}

// TestText: of properties that may not be, too.
func TestText(t *testing.T) {
	for what, l := range lists() {
		if got := props.Text(l); !slices.Equal(got, wantText(l)) {
			t.Errorf("Text of %s = %q", what, got)
		}
	}
	if got := props.Text(list("d=1", "b=", "=\xff", "d=d")); !slices.Equal(got, []string{"d", "1", "b", "", "", "\xff", "d", "d"}) {
		t.Errorf("Text = %q", got)
	}
}

func TestPropertiesComeBack(t *testing.T) {
	for what, l := range good() {
		if got, err := props.Read(props.Text(l)); err != api.OK || !slices.Equal(got, l) {
			t.Errorf("Read of the Text of %s = %q, %d", what, got, err)
		}
	}
	for what, l := range bad() {
		if got, err := props.Read(props.Text(l)); err != api.ErrState || got != nil {
			t.Errorf("Read of the Text of properties that may not be (%s) = %q, %d", what, got, err)
		}
	}
	r := rand.New(rand.NewSource(123))
	for range 3000 {
		l := some(r, "0123456789-_abxyz")
		if got, err := props.Read(props.Text(l)); err != api.OK || !slices.Equal(got, l) {
			t.Fatalf("Read of the Text of %v = %v, %d", l, got, err)
		}
	}
}

// TestTextsComeBack: those that are read.
func TestTextsComeBack(t *testing.T) {
	r := rand.New(rand.NewSource(124))
	texts := []string{"a", "b", "c", "d", "e", "", "1", "~"}
	read := 0
	for range 20000 {
		l := make([]string, r.Intn(9))
		for i := range l {
			l[i] = texts[r.Intn(len(texts))]
		}
		mustRead(t, fmt.Sprintf("%q", l), l)
		if p, err := props.Read(l); err == api.OK {
			read++
			if !slices.Equal(props.Text(p), l) {
				t.Fatalf("Text of the properties of %q = %q", l, props.Text(p))
			}
		}
	}
	if read < 2000 {
		t.Errorf("only %d are read", read)
	}
}

// TestReadOfEachNumber: of texts, all of them names and values.
func TestReadOfEachNumber(t *testing.T) {
	for n := range 50 {
		var l []string
		for i := range n {
			l = append(l, fmt.Sprintf("%02d", i))
		}
		want := api.OK
		if n%2 == 1 {
			want = api.ErrShort
		} else if n > 16 {
			want = api.ErrState
		}
		got, err := props.Read(l)
		if err != want || err != api.OK && got != nil || err == api.OK && !slices.Equal(props.Text(got), l) {
			t.Errorf("Read of %d texts = %v, %d, want %d", n, got, err, want)
		}
		mustRead(t, fmt.Sprint(n, " texts"), l)
	}
	many := make([]string, 1<<20)
	for i := range many {
		many[i] = "a"
	}
	mustRead(t, "very many", many)
	mustRead(t, "very many and one", append(many, "a"))
}

// TestReadRefuses: an odd number ahead of what else is wrong.
func TestReadRefuses(t *testing.T) {
	for what, l := range lists() {
		texts := wantText(l)
		mustRead(t, what, texts)
		mustRead(t, what+", and one more", append(slices.Clone(texts), "z"))
		mustRead(t, what+", and two more", append(slices.Clone(texts), "z", ""))
		if len(texts) > 0 {
			mustRead(t, what+", without the first", texts[1:])
			mustRead(t, what+", without the last", texts[:len(texts)-1])
		}
	}
	for _, k := range []struct {
		l    []string
		want api.Errno
	}{
		{nil, api.OK},
		{[]string{"b", ""}, api.OK},
		{[]string{"b"}, api.ErrShort},
		{[]string{"B"}, api.ErrShort},
		{[]string{""}, api.ErrShort},
		{[]string{"c", "", "b"}, api.ErrShort},
		{[]string{"b", "\x1f", "c"}, api.ErrShort},
		{[]string{"", ""}, api.ErrState},
		{[]string{"B", ""}, api.ErrState},
		{[]string{"b", "\x1f"}, api.ErrState},
		{[]string{"b", "\x7f"}, api.ErrState},
		{[]string{"b", strings.Repeat("x", 33)}, api.ErrState},
		{[]string{strings.Repeat("b", 17), ""}, api.ErrState},
		{[]string{"b", "1", "b", "2"}, api.ErrState},
		{[]string{"c", "1", "b", "2"}, api.ErrState},
	} {
		got, err := props.Read(k.l)
		if err != k.want || err != api.OK && got != nil {
			t.Errorf("Read(%q) = %v, %d, want %d", k.l, got, err, k.want)
		}
	}
}
