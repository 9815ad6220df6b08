package blocks_test

import (
	"math/rand"
	"reflect"
	"slices"
	"strings"
	"testing"

	"godown/api"
	"godown/blocks"
)

// P11.2: Diff, and P11.3

// sameRecords: records have lists, so they are held against each other by
// their parts.
func sameRecords(a, b []api.Record) bool {
	return slices.EqualFunc(a, b, func(a, b api.Record) bool { return reflect.DeepEqual(a, b) })
}

// mustDiff: the change is as the words tell it, and makes the one content the
// other.
func mustDiff(t *testing.T, what string, a, b []api.Block) {
	t.Helper()
	want, wantErr := wantDiff(a, b)
	got, err := blocks.Diff(a, b)
	if err != wantErr || !sameRecords(got, want) || len(want) == 0 && got != nil {
		t.Fatalf("Diff of %s: %v, %d, want %v, %d", what, short(got), err, short(want), wantErr)
	}
	if err == api.OK && !slices.Equal(applied(t, a, got), b) {
		t.Fatalf("Diff of %s does not make the second content: %v", what, short(got))
	}
}

// short: the front of a list, so that a fault can be read.
func short(l []api.Record) []api.Record {
	return l[:min(len(l), 20)]
}

func TestDiffOfContents(t *testing.T) {
	all := contents()
	for what, a := range all {
		for other, b := range all {
			mustDiff(t, what+" and "+other, a, b)
		}
		if got, err := blocks.Diff(a, slices.Clone(a)); err != api.OK || got != nil {
			t.Errorf("Diff of %s and itself: %v, %d", what, short(got), err)
		}
	}
}

func written(index int, data string) api.Record {
	return api.Record{Kind: 2, Index: index, Data: data}
}

func gone(index, count int) api.Record {
	return api.Record{Kind: 3, Index: index, Count: count}
}

func TestDiffByHand(t *testing.T) {
	x, y := text(1), text(2)
	for what, k := range map[string]struct {
		a, b []api.Block
		want []api.Record
	}{
		"none to none":   {},
		"none to some":   {nil, []api.Block{{Index: 0, Data: x}, {Index: 1, Data: y}}, []api.Record{written(0, x), written(1, y)}},
		"some to none":   {[]api.Block{{Index: 4, Data: x}, {Index: 5, Data: y}}, nil, []api.Record{gone(4, 2)}},
		"all to none":    {span(0, maxIndex), nil, []api.Record{gone(0, maxIndex)}},
		"other Data":     {[]api.Block{{Index: 4, Data: x}}, []api.Block{{Index: 4, Data: y}}, []api.Record{written(4, y)}},
		"another Index":  {[]api.Block{{Index: 4, Data: x}}, []api.Block{{Index: 3, Data: x}}, []api.Record{written(3, x), gone(4, 1)}},
		"runs apart":     {content(4, 6), nil, []api.Record{gone(4, 1), gone(6, 1)}},
		"both sides":     {content(4, 5, 6, 7), content(5), []api.Record{gone(4, 1), gone(6, 2)}},
		"a stay between": {content(4, 5, 6), content(5), []api.Record{gone(4, 1), gone(6, 1)}},
		"a write between": {
			[]api.Block{{Index: 4, Data: x}, {Index: 5, Data: x}, {Index: 6, Data: x}},
			[]api.Block{{Index: 5, Data: y}},
			[]api.Record{gone(4, 1), written(5, y), gone(6, 1)},
		},
		"a new one between": {
			[]api.Block{{Index: 4, Data: x}, {Index: 6, Data: x}},
			[]api.Block{{Index: 5, Data: x}},
			[]api.Record{gone(4, 1), written(5, x), gone(6, 1)},
		},
		"a run behind a write": {
			[]api.Block{{Index: 4, Data: x}, {Index: 5, Data: x}, {Index: 6, Data: x}},
			[]api.Block{{Index: 4, Data: y}},
			[]api.Record{written(4, y), gone(5, 2)},
		},
		"a run ahead of a write": {
			[]api.Block{{Index: 4, Data: x}, {Index: 5, Data: x}},
			[]api.Block{{Index: 6, Data: x}},
			[]api.Record{gone(4, 2), written(6, x)},
		},
		"both ends": {
			[]api.Block{{Index: 0, Data: x}, {Index: maxIndex - 1, Data: x}},
			[]api.Block{{Index: 1, Data: x}, {Index: maxIndex - 2, Data: x}},
			[]api.Record{gone(0, 1), written(1, x), written(maxIndex-2, x), gone(maxIndex-1, 1)},
		},
	} {
		got, err := blocks.Diff(k.a, k.b)
		if err != api.OK || !sameRecords(got, k.want) {
			t.Errorf("Diff, %s: %v, %d, want %v", what, got, err, k.want)
		}
		if made := done(t, k.a, got); !slices.Equal(made, k.b) {
			t.Errorf("Diff, %s makes %v", what, made)
		}
	}
}

// small: all contents of the indexes from a on, so many, with two texts.
func small(a, count int) [][]api.Block {
	out := [][]api.Block{nil}
	for i := a; i < a+count; i++ {
		for _, l := range slices.Clone(out) {
			for seed := range 2 {
				out = append(out, append(slices.Clone(l), api.Block{Index: i, Data: text(seed)}))
			}
		}
	}
	return out
}

func TestDiffOfAllSmallContents(t *testing.T) {
	for _, all := range [][][]api.Block{small(0, 4), small(maxIndex-4, 4)} {
		for _, a := range all {
			for _, b := range all {
				mustDiff(t, "small contents", a, b)
				change, _ := blocks.Diff(a, b)
				if made := done(t, a, change); !slices.Equal(made, b) {
					t.Fatalf("from %v: %v makes %v, want %v", a, change, made, b)
				}
			}
		}
	}
	for _, a := range small(300, 6) {
		for _, b := range [][]api.Block{nil, content(301), content(302, 303), content(299, 304), content(306)} {
			mustDiff(t, "a small content to another", a, b)
			mustDiff(t, "a content to a small one", b, a)
		}
	}
}

// TestDiffOfMany: from each content to the next one, and back.
func TestDiffOfMany(t *testing.T) {
	r := rand.New(rand.NewSource(111))
	a := some(r)
	for range 2000 {
		b := some(r)
		mustDiff(t, "one of many to the next", a, b)
		mustDiff(t, "one of many to itself", b, slices.Clone(b))
		a = b
	}
	for range 60 {
		b := some(r)
		change, _ := blocks.Diff(a, b)
		if !blocks.Same(done(t, a, change), b) {
			t.Fatal("what is done of a change does not make the second content")
		}
		a = b
	}
}

// TestDiffBesideChanges: contents that are one but for some puts and frees.
func TestDiffBesideChanges(t *testing.T) {
	r := rand.New(rand.NewSource(112))
	l := span(0, maxIndex)
	for range 400 {
		k := l
		for range r.Intn(6) {
			i := r.Intn(maxIndex)
			if r.Intn(2) == 0 {
				k, _ = wantPut(k, i, text(r.Intn(2)))
			} else {
				k, _ = wantFree(k, i, 1+r.Intn(min(maxIndex-i, 60)))
			}
		}
		mustDiff(t, "one content and a changed one", l, k)
		mustDiff(t, "a changed one and the content", k, l)
		l = k
	}
}

func TestDiffRefuses(t *testing.T) {
	bad := noContents()
	for what, l := range bad {
		for _, k := range [][]api.Block{nil, content(1, 2), span(0, maxIndex), l, bad["Index twice"]} {
			mustDiff(t, "no content first: "+what, l, k)
			mustDiff(t, "no content second: "+what, k, l)
		}
	}
	short, long := content(3), content(3)
	short[0].Data, long[0].Data = short[0].Data[1:], strings.Repeat("x", blockSize+1)
	for _, l := range [][]api.Block{content(2, 1), content(1, 1), content(-1), content(maxIndex), short, long} {
		for _, k := range [][]api.Block{nil, l, content(9)} {
			got, err := blocks.Diff(l, k)
			back, backErr := blocks.Diff(k, l)
			if err != api.ErrState || got != nil || backErr != api.ErrState || back != nil {
				t.Errorf("Diff of %v and %v: %v, %d, and back %v, %d", l, k, got, err, back, backErr)
			}
		}
	}
}
