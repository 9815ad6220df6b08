package blocks_test

import (
	"math"
	"math/rand"
	"slices"
	"strings"
	"testing"

	"godown/api"
	"godown/blocks"
)

// The limits, as the document writes them.
const (
	maxIndex  = 1 << 10
	blockSize = 16
)

// table: what a content has at each index; no octets: no block.
type table [maxIndex]string

func tableOf(l []api.Block) table {
	var out table
	for _, b := range l {
		out[b.Index] = b.Data
	}
	return out
}

func (t *table) content() []api.Block {
	var out []api.Block
	for i, data := range t {
		if data != "" {
			out = append(out, api.Block{Index: i, Data: data})
		}
	}
	return out
}

// wantCheck: each block by itself, then each with the one ahead of it.
func wantCheck(l []api.Block) api.Errno {
	for _, b := range l {
		if b.Index < 0 || b.Index >= maxIndex || len(b.Data) != blockSize {
			return api.ErrState
		}
	}
	for i := 1; i < len(l); i++ {
		if l[i-1].Index >= l[i].Index {
			return api.ErrState
		}
	}
	return api.OK
}

func wantPut(l []api.Block, index int, data string) ([]api.Block, api.Errno) {
	switch {
	case wantCheck(l) != api.OK:
		return nil, api.ErrState
	case index < 0 || index >= maxIndex:
		return nil, api.ErrRange
	case len(data) != blockSize:
		return nil, api.ErrLong
	}
	t := tableOf(l)
	t[index] = data
	return t.content(), api.OK
}

func wantFree(l []api.Block, index int, count int) ([]api.Block, api.Errno) {
	if wantCheck(l) != api.OK {
		return nil, api.ErrState
	}
	if index < 0 || index >= maxIndex || count < 1 || count > maxIndex-index {
		return nil, api.ErrRange
	}
	t := tableOf(l)
	for i := range count {
		t[index+i] = ""
	}
	return t.content(), api.OK
}

// wantDiff: index by index, what begins there.
func wantDiff(a, b []api.Block) ([]api.Record, api.Errno) {
	if wantCheck(a) != api.OK || wantCheck(b) != api.OK {
		return nil, api.ErrState
	}
	was, is := tableOf(a), tableOf(b)
	gone := func(i int) bool {
		return i >= 0 && i < maxIndex && was[i] != "" && is[i] == ""
	}
	var out []api.Record
	for i := range maxIndex {
		if is[i] != "" && is[i] != was[i] {
			out = append(out, api.Record{Kind: 2, Index: i, Data: is[i]})
		}
		if gone(i) && !gone(i-1) {
			r := api.Record{Kind: 3, Index: i}
			for gone(i + r.Count) {
				r.Count++
			}
			out = append(out, r)
		}
	}
	return out, api.OK
}

func wantOctets(l []api.Block) []byte {
	var out []byte
	for _, b := range l {
		out = append(out, byte(b.Index/256), byte(b.Index%256))
		out = append(out, []byte(b.Data)...)
	}
	return out
}

// applied: a content behind records, told by tables; of any other record none.
func applied(t *testing.T, l []api.Block, records []api.Record) []api.Block {
	t.Helper()
	out := tableOf(l)
	for _, r := range records {
		switch r.Kind {
		case 2:
			out[r.Index] = r.Data
		case 3:
			for i := range r.Count {
				out[r.Index+i] = ""
			}
		default:
			t.Fatalf("a change has a record of kind %d", r.Kind)
		}
	}
	return out.content()
}

// done: a content behind records, told by the program's own calls.
func done(t *testing.T, l []api.Block, records []api.Record) []api.Block {
	t.Helper()
	for _, r := range records {
		var err api.Errno
		if r.Kind == 2 {
			l, err = blocks.Put(l, r.Index, r.Data)
		} else {
			l, err = blocks.Free(l, r.Index, r.Count)
		}
		if err != api.OK {
			t.Fatalf("the record %v cannot be done: %d", r, err)
		}
	}
	return l
}

// text: 16 octets that hang on the seed.
func text(seed int) string {
	out := make([]byte, blockSize)
	for i := range out {
		out[i] = byte(seed*31 + i*7 + seed>>8)
	}
	return string(out)
}

func block(index int) api.Block {
	return api.Block{Index: index, Data: text(index)}
}

// content: blocks at these indexes.
func content(at ...int) []api.Block {
	var out []api.Block
	for _, i := range at {
		out = append(out, block(i))
	}
	return out
}

// span: a block at each index from a to below b.
func span(a, b int) []api.Block {
	var out []api.Block
	for i := a; i < b; i++ {
		out = append(out, block(i))
	}
	return out
}

// some: a content whose blocks stand close together or far apart, with few
// texts, so that many are those of another content.
func some(r *rand.Rand) []api.Block {
	var out []api.Block
	step := 1 + r.Intn(40)
	texts := 1 + r.Intn(3)
	for i := r.Intn(step); i < maxIndex; i += 1 + r.Intn(step) {
		out = append(out, api.Block{Index: i, Data: text(r.Intn(texts))})
		if r.Intn(200) == 0 {
			break
		}
	}
	return out
}

// contents: the edges, and some that are neither.
func contents() map[string][]api.Block {
	out := map[string][]api.Block{
		"none":                    nil,
		"one at 0":                content(0),
		"one at 1":                content(1),
		"one at the last":         content(maxIndex - 1),
		"one between":             content(500),
		"the first and the last":  content(0, maxIndex-1),
		"two side by side":        content(7, 8),
		"runs":                    content(3, 4, 5, 8, 9, 20, 255, 256, 257),
		"all":                     span(0, maxIndex),
		"all but the first":       span(1, maxIndex),
		"all but the last":        span(0, maxIndex-1),
		"all but one between":     append(span(0, 511), span(512, maxIndex)...),
		"one text at each index":  nil,
		"octets of all kinds":     {{Index: 4, Data: "\x00\xff\n\"\x80é€012345"}, {Index: 6, Data: strings.Repeat("\x00", 16)}},
		"each second one":         nil,
		"one text at two indexes": {{Index: 2, Data: text(9)}, {Index: 3, Data: text(9)}},
	}
	for i := range maxIndex {
		out["one text at each index"] = append(out["one text at each index"], api.Block{Index: i, Data: text(1)})
		if i%2 == 1 {
			out["each second one"] = append(out["each second one"], block(i))
		}
	}
	return out
}

// noContents: blocks that are none.
func noContents() map[string][]api.Block {
	out := map[string][]api.Block{
		"Index falls":                  content(5, 4),
		"Index falls behind others":    content(1, 2, 9, 8),
		"Index falls ahead of others":  content(2, 1, 5, 9),
		"Index twice":                  content(5, 5),
		"Index twice behind others":    content(1, 5, 5),
		"Index twice, other Data":      {{Index: 5, Data: text(1)}, {Index: 5, Data: text(2)}},
		"Index 0 twice":                content(0, 0),
		"the last Index twice":         content(maxIndex-1, maxIndex-1),
		"Index twice, apart":           content(5, 6, 5),
		"one more than all":            append(span(0, maxIndex), block(maxIndex)),
		"all, and one twice":           append(span(0, maxIndex), block(maxIndex-1)),
		"an Index behind one below 0":  content(-1, 0),
		"an Index of 2^10 behind some": content(3, maxIndex),
		"zero":                         {{}},
		"very many":                    make([]api.Block, 1<<16),
	}
	for _, i := range noIndexes() {
		out["Index "+label(i)] = []api.Block{{Index: i, Data: text(0)}}
	}
	for _, n := range []int{0, 1, 15, 17, 18, 32, 1 << 16} {
		l := content(1, 2, 3)
		for i := range l {
			k := slices.Clone(l)
			k[i].Data = strings.Repeat("x", n)
			out["Data of "+label(n)+" octets at "+label(i)] = k
		}
	}
	return out
}

func noIndexes() []int {
	return []int{-1, -2, maxIndex, maxIndex + 1, math.MinInt, math.MinInt + 1, math.MaxInt, -1 << 32, 1 << 16, 1 << 32, 1<<32 + 5, -maxIndex}
}

func label(n int) string {
	if n < 0 {
		return "-" + label(-(n + 1)) + "-1"
	}
	if n < 10 {
		return string(rune('0' + n))
	}
	return label(n/10) + label(n%10)
}

func TestLimits(t *testing.T) {
	if api.MaxIndex != maxIndex || api.BlockSize != blockSize {
		t.Fatalf("MaxIndex %d, BlockSize %d, want 2^10 and 16", api.MaxIndex, api.BlockSize)
	}
}

// P11.1

func TestCheck(t *testing.T) {
	for what, l := range contents() {
		if err := blocks.Check(l); err != api.OK {
			t.Errorf("Check of %s = %d", what, err)
		}
	}
	for what, l := range noContents() {
		if err := blocks.Check(l); err != api.ErrState {
			t.Errorf("Check of blocks that are no content, %s = %d, want ErrState", what, err)
		}
	}
}

// TestCheckOfAllShortLists: all lists of at most 4 blocks of the edges.
func TestCheckOfAllShortLists(t *testing.T) {
	var edges []api.Block
	for _, i := range []int{-1, 0, 1, maxIndex - 1, maxIndex} {
		edges = append(edges, block(i), api.Block{Index: i, Data: text(i)[1:]})
	}
	good := 0
	var grow func(l []api.Block)
	grow = func(l []api.Block) {
		want := wantCheck(l)
		if err := blocks.Check(l); err != want {
			t.Fatalf("Check(%v) = %d, want %d", l, err, want)
		}
		if want == api.OK {
			good++
		}
		if len(l) == 4 {
			return
		}
		for _, b := range edges {
			grow(append(slices.Clone(l), b))
		}
	}
	grow(nil)
	if good != 8 {
		t.Errorf("%d lists are contents, want each choice of 3 indexes", good)
	}
}

func TestGet(t *testing.T) {
	for what, l := range contents() {
		want := tableOf(l)
		for i := range maxIndex {
			if s, is := blocks.Get(l, i); s != want[i] || is != (want[i] != "") {
				t.Fatalf("Get of %s at %d = %q, %v, want %q", what, i, s, is, want[i])
			}
		}
		for _, i := range noIndexes() {
			if s, is := blocks.Get(l, i); is || s != "" {
				t.Errorf("Get of %s at %d = %q, %v", what, i, s, is)
			}
		}
	}
}

// TestGetOfNoContent: each block that is there is found; of several at one
// index the first counts.
func TestGetOfNoContent(t *testing.T) {
	l := []api.Block{
		{Index: 9, Data: "first"}, {Index: -1, Data: text(1)}, {Index: 9, Data: text(2)}, {Index: maxIndex, Data: "x"},
		{Index: 3, Data: ""}, {Index: 3, Data: text(3)}, {Index: math.MaxInt, Data: text(4)}, {Index: math.MinInt, Data: text(5)},
	}
	for i, want := range map[int]string{
		9: "first", -1: text(1), maxIndex: "x", 3: "", math.MaxInt: text(4), math.MinInt: text(5),
	} {
		if s, is := blocks.Get(l, i); !is || s != want {
			t.Errorf("Get at %d = %q, %v, want %q", i, s, is, want)
		}
	}
	for _, i := range []int{0, 1, 4, 8, 10, maxIndex - 1, maxIndex + 1} {
		if s, is := blocks.Get(l, i); is || s != "" {
			t.Errorf("Get at %d = %q, %v", i, s, is)
		}
	}
}

func TestSame(t *testing.T) {
	lists := map[string][]api.Block{}
	for what, l := range contents() {
		lists[what] = l
	}
	for what, l := range noContents() {
		lists["no content: "+what] = l
	}
	for what, a := range lists {
		if !blocks.Same(a, slices.Clone(a)) {
			t.Errorf("Same of %s with itself is false", what)
		}
		for other, b := range lists {
			if what != other && blocks.Same(a, b) {
				t.Errorf("Same of %s and %s is true", what, other)
			}
		}
		for i := range min(len(a), 40) {
			for _, change := range []func(*api.Block){
				func(b *api.Block) { b.Index++ },
				func(b *api.Block) { b.Index = -b.Index - 1 },
				func(b *api.Block) { b.Data += "x" },
				func(b *api.Block) { b.Data = "!" + b.Data[min(1, len(b.Data)):] },
			} {
				b := slices.Clone(a)
				change(&b[i])
				if blocks.Same(a, b) || blocks.Same(b, a) {
					t.Errorf("Same of %s and one that is changed at %d is true", what, i)
				}
			}
			if b := slices.Delete(slices.Clone(a), i, i+1); blocks.Same(a, b) || blocks.Same(b, a) {
				t.Errorf("Same of %s and one less is true", what)
			}
		}
	}
}

func mustPut(t *testing.T, what string, l []api.Block, index int, data string) {
	t.Helper()
	want, wantErr := wantPut(l, index, data)
	got, err := blocks.Put(l, index, data)
	if err != wantErr || !slices.Equal(got, want) || err != api.OK && got != nil {
		t.Errorf("Put into %s, at %d, of %d octets: %d blocks, %d, want %d, %d", what, index, len(data), len(got), err, len(want), wantErr)
	}
}

func TestPut(t *testing.T) {
	for what, l := range contents() {
		for _, i := range []int{0, 1, 2, 3, 4, 5, 6, 7, 8, 9, 10, 19, 20, 21, 254, 255, 256, 257, 258, 500, 511, 512, maxIndex - 2, maxIndex - 1} {
			mustPut(t, what, l, i, text(-i))
			mustPut(t, what, l, i, text(i)) // as it is, if it is there
			mustPut(t, what, l, i, strings.Repeat("\x00", blockSize))
		}
	}
}

func TestPutByHand(t *testing.T) {
	l := []api.Block{{Index: 2, Data: text(2)}, {Index: 5, Data: text(5)}}
	for index, want := range map[int][]api.Block{
		0:            {{Index: 0, Data: text(77)}, l[0], l[1]},
		2:            {{Index: 2, Data: text(77)}, l[1]},
		3:            {l[0], {Index: 3, Data: text(77)}, l[1]},
		5:            {l[0], {Index: 5, Data: text(77)}},
		maxIndex - 1: {l[0], l[1], {Index: maxIndex - 1, Data: text(77)}},
	} {
		if got, err := blocks.Put(l, index, text(77)); err != api.OK || !slices.Equal(got, want) {
			t.Errorf("Put at %d = %v, %d", index, got, err)
		}
	}
}

// TestPutRefuses: ErrState ahead of ErrRange, that ahead of ErrLong.
func TestPutRefuses(t *testing.T) {
	lengths := []int{0, 1, 15, 16, 17, 32, 1 << 16}
	for what, l := range contents() {
		for _, n := range lengths {
			data := strings.Repeat("x", n)
			mustPut(t, what, l, 0, data)
			mustPut(t, what, l, 4, data)
			mustPut(t, what, l, maxIndex-1, data)
			for _, i := range noIndexes() {
				mustPut(t, what, l, i, data)
			}
		}
	}
	for what, l := range noContents() {
		for _, n := range lengths {
			for _, i := range append(noIndexes(), 0, 5, maxIndex-1) {
				mustPut(t, what, l, i, strings.Repeat("x", n))
			}
		}
	}
	for _, k := range []struct {
		l     []api.Block
		index int
		data  string
		want  api.Errno
	}{
		{content(2, 1), -1, "x", api.ErrState},
		{content(1, 2), -1, "x", api.ErrRange},
		{content(1, 2), maxIndex, "x", api.ErrRange},
		{content(1, 2), maxIndex - 1, "x", api.ErrLong},
		{nil, 0, text(1)[1:], api.ErrLong},
		{nil, 0, text(1) + "x", api.ErrLong},
		{nil, 0, "", api.ErrLong},
	} {
		if got, err := blocks.Put(k.l, k.index, k.data); err != k.want || got != nil {
			t.Errorf("Put(%v, %d, %q) = %v, %d, want %d", k.l, k.index, k.data, got, err, k.want)
		}
	}
}

func mustFree(t *testing.T, what string, l []api.Block, index int, count int) {
	t.Helper()
	want, wantErr := wantFree(l, index, count)
	got, err := blocks.Free(l, index, count)
	if err != wantErr || !slices.Equal(got, want) || len(want) == 0 && got != nil {
		t.Errorf("Free of %s, %d from %d: %d blocks, %d, want %d, %d", what, count, index, len(got), err, len(want), wantErr)
	}
}

func counts(index int) []int {
	rest := maxIndex - index
	return []int{1, 2, 3, 4, 5, 17, rest - 1, rest, rest + 1, 0, -1, maxIndex, maxIndex + 1, math.MaxInt, math.MaxInt - index, math.MinInt, 1 << 32, 1<<32 + 1, -1 << 32}
}

func TestFree(t *testing.T) {
	for what, l := range contents() {
		for _, i := range []int{0, 1, 2, 3, 4, 5, 6, 7, 8, 9, 10, 20, 21, 254, 256, 258, 511, 512, maxIndex - 2, maxIndex - 1} {
			for _, count := range counts(i) {
				mustFree(t, what, l, i, count)
			}
		}
		for _, i := range noIndexes() {
			for _, count := range []int{1, 2, 0, -1, maxIndex, math.MaxInt, math.MinInt} {
				mustFree(t, what, l, i, count)
			}
		}
	}
}

// TestFreeOfAllRuns: a content of runs, each run of indexes around them.
func TestFreeOfAllRuns(t *testing.T) {
	for _, l := range [][]api.Block{content(1, 2, 3, 6, 8, 9), content(1014, 1017, 1018, 1022, 1023), nil} {
		for i := range maxIndex {
			if i > 12 && i < 1010 {
				continue
			}
			for count := range 15 {
				mustFree(t, "runs", l, i, count)
			}
		}
	}
}

func TestFreeByHand(t *testing.T) {
	l := content(2, 3, 5, 9)
	for _, k := range []struct {
		index, count int
		want         []api.Block
		err          api.Errno
	}{
		{2, 1, content(3, 5, 9), api.OK},
		{3, 1, content(2, 5, 9), api.OK},
		{9, 1, content(2, 3, 5), api.OK},
		{0, 2, content(2, 3, 5, 9), api.OK},
		{4, 1, content(2, 3, 5, 9), api.OK},
		{4, 3, content(2, 3, 9), api.OK},
		{0, 3, content(3, 5, 9), api.OK},
		{3, 3, content(2, 9), api.OK},
		{6, 3, content(2, 3, 5, 9), api.OK},
		{10, maxIndex - 10, content(2, 3, 5, 9), api.OK},
		{0, maxIndex, nil, api.OK},
		{2, 8, nil, api.OK},
		{maxIndex - 1, 1, content(2, 3, 5, 9), api.OK},
		{maxIndex - 1, 2, nil, api.ErrRange},
		{0, maxIndex + 1, nil, api.ErrRange},
		{2, 0, nil, api.ErrRange},
		{maxIndex, 0, nil, api.ErrRange},
		{maxIndex, 1, nil, api.ErrRange},
		{-1, 1, nil, api.ErrRange},
		{1, math.MaxInt, nil, api.ErrRange},
	} {
		if got, err := blocks.Free(l, k.index, k.count); err != k.err || !slices.Equal(got, k.want) {
			t.Errorf("Free(%d, %d) = %v, %d", k.index, k.count, got, err)
		}
	}
}

func TestFreeRefuses(t *testing.T) {
	for what, l := range noContents() {
		for _, i := range append(noIndexes(), 0, 5, maxIndex-1) {
			for _, count := range []int{1, 0, -1, 5, maxIndex, math.MaxInt, math.MinInt} {
				mustFree(t, what, l, i, count)
			}
		}
	}
}

// TestExample: the chapter's.
func TestExample(t *testing.T) {
	l, err := blocks.Put(nil, 3, "0123456789abcdef")
	if err != api.OK || !slices.Equal(l, []api.Block{{Index: 3, Data: "0123456789abcdef"}}) {
		t.Fatalf("Put = %v, %d", l, err)
	}
	if s, is := blocks.Get(l, 3); !is || s != "0123456789abcdef" {
		t.Errorf("Get = %q, %v", s, is)
	}
	if s, is := blocks.Get(l, 4); is || s != "" {
		t.Errorf("Get of none = %q, %v", s, is)
	}
}
