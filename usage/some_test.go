package usage_test

import (
	"fmt"
	"math/rand"
	"reflect"
	"slices"
	"strings"

	"godown/api"
)

// What the tests are made of: contents, sets and tenants, and what the words
// tell of them.

const (
	maxAmount = 1 << 40
	maxIndex  = 1 << 10
)

// text: the Data of a block, unlike those of other seeds.
func text(seed int) string {
	return fmt.Sprintf("data of %08d", seed)
}

// at: a block.
func at(index, seed int) api.Block {
	return api.Block{Index: index, Data: text(seed)}
}

// content: blocks at these indexes, each with Data of its own.
func content(indexes ...int) []api.Block {
	var out []api.Block
	for _, i := range indexes {
		out = append(out, at(i, i))
	}
	return out
}

// span: the content of n blocks from the first index on.
func span(n int) []api.Block {
	var out []api.Block
	for i := range n {
		out = append(out, at(i, i))
	}
	return out
}

// setOf: a set of that Body, behind snapshots of the others.
func setOf(body []api.Block, snaps ...[]api.Block) api.Set {
	s := api.Set{Body: body}
	for i, l := range snaps {
		s.Snaps = append(s.Snaps, api.Snap{Name: fmt.Sprintf("n%d", i), Guid: i + 1, Body: l})
	}
	return s
}

// full: a tenant that may be, with something of each kind; it is charged for
// 36: of contents alpha has 3, alpha/one 2, beta 3, the other sets 1 or 2, the
// stages 2, 13 in all, and these have 23 blocks.
func full() api.Tenant {
	own := []api.Prop{{Name: "atime", Value: "on"}, {Name: "copies", Value: "2"}}
	return api.Tenant{
		Name: "tenant-1", Quota: 40, Next: 90,
		Sets: []api.Set{
			{Path: "", Body: content(0, 1023), Own: own, Snaps: []api.Snap{
				{Name: "monday", Guid: 1, Own: own},
			}},
			{Path: "alpha", Origin: "@monday", Body: content(3), Own: own, Snaps: []api.Snap{
				{Name: "monday", Guid: 2, Body: content(1, 2, 3), Tags: []string{"keep"}},
				{Name: "friday", Guid: 7, Body: content(3), Own: own, Tags: []string{"keep", "x"}},
			}},
			{Path: "alpha/one", Origin: "alpha@monday", Snaps: []api.Snap{
				{Name: "friday", Guid: 5, Body: content(5, 6)},
			}},
			{Path: "alpha/one/two", Body: content(7)},
			{Path: "beta", Origin: "alpha@monday", Body: content(4, 5, 6, 7, 8), Snaps: []api.Snap{
				{Name: "old", Guid: 7, Own: own},
				{Name: "new", Guid: 8, Body: content(0, 1, 2, 3, 4)},
			}},
		},
		Grants: []api.Grant{{User: "alice", Path: "", Perms: 255}, {User: "bob", Path: "gone/away", Perms: 64}},
		Stages: []api.Stage{
			{Into: "alpha/one", Begin: api.Record{Kind: 1, Name: "friday", From: 5, Guid: 9, Own: own}, Body: content(5, 9), At: 300, Next: 10, Sum: api.Sum{A: 1, D: 1 << 63}},
			{Into: "new/one", Begin: api.Record{Kind: 1, Name: "first", Guid: 1}, Body: content(1), Done: true},
		},
		Log: []api.Entry{{User: "alice", Kind: 3, Path: "alpha", Err: api.ErrHeld}, {Kind: 1}},
	}
}

const charge = 36 // full's

// edges: blocks at each edge, of which some have one Index, others one Data.
func edges() []api.Block {
	return []api.Block{
		at(0, 0), at(0, 1), at(1, 0), at(1, 1), at(1023, 0), at(1024, 0), at(-1, 0), at(1<<62, 1),
		{}, {Index: 1}, {Data: text(0)[:15]}, {Data: text(0) + "x"}, {Data: strings.ToUpper(text(0))}, {Index: 1, Data: "\x00"}, {Index: 1, Data: "\xff\xfe"},
	}
}

// wantCharge: 1 and how many blocks it has, of each content that the types of x
// have, wherever it stands.
func wantCharge(x any) int {
	sum := 0
	walk(reflect.ValueOf(x), func(x reflect.Value) {
		if x.Type() == reflect.TypeFor[[]api.Block]() {
			sum += 1 + x.Len()
		}
	})
	return sum
}

// wantUnique: the blocks of the one at that place, each held against all that
// its neighbours have.
func wantUnique(s api.Set, place int) int {
	if place < 0 || place > len(s.Snaps)-1 {
		return 0
	}
	others := map[string]int{}
	if place > 0 {
		meet(others, s.Snaps[place-1].Body)
	}
	if place == len(s.Snaps)-1 {
		meet(others, s.Body)
	} else {
		meet(others, s.Snaps[place+1].Body)
	}
	return unmet(others, s.Snaps[place].Body)
}

// wantChanged: the blocks of Body, each held against all that the last one has.
func wantChanged(s api.Set) int {
	others := map[string]int{}
	for _, n := range s.Snaps[max(len(s.Snaps)-1, 0):] {
		meet(others, n.Body)
	}
	return unmet(others, s.Body)
}

// told: a block as it is.
func told(b api.Block) string {
	return fmt.Sprintf("%d %q", b.Index, b.Data)
}

// brief: the front of what v is, so that a fault can be read.
func brief(v any) string {
	s := fmt.Sprintf("%#v", v)
	return s[:min(len(s), 400)]
}

func meet(met map[string]int, l []api.Block) {
	for _, b := range l {
		met[told(b)]++
	}
}

func unmet(met map[string]int, l []api.Block) int {
	n := 0
	for _, b := range l {
		if met[told(b)] == 0 {
			n++
		}
	}
	return n
}

// pick: one of them.
func pick[T any](r *rand.Rand, l []T) T {
	return l[r.Intn(len(l))]
}

// someBody: a content; of a few blocks, so that many are one.
func someBody(r *rand.Rand) []api.Block {
	var out []api.Block
	for i := range pick(r, []int{0, 1, 2, 5, 9}) {
		if r.Intn(3) > 0 {
			out = append(out, at(i*i, r.Intn(2)))
		}
	}
	return out
}

// someList: blocks that need be no content: they fall, stand twice, or may not
// be at all.
func someList(r *rand.Rand) []api.Block {
	l := someBody(r)
	for range r.Intn(4) {
		l = append(l, pick(r, append(l, edges()...)))
	}
	r.Shuffle(len(l), func(i, j int) { l[i], l[j] = l[j], l[i] })
	return l
}

// someSet: of lists that body makes.
func someSet(r *rand.Rand, body func(r *rand.Rand) []api.Block) api.Set {
	var snaps [][]api.Block
	for range pick(r, []int{0, 1, 2, 3, 16}) {
		snaps = append(snaps, body(r))
	}
	return setOf(body(r), snaps...)
}

// someTenant: one that may be, if body makes contents.
func someTenant(r *rand.Rand, body func(r *rand.Rand) []api.Block) api.Tenant {
	t := api.Tenant{Name: "t", Quota: r.Intn(300), Next: 1 + r.Intn(9)}
	for _, path := range []string{"", "a", "a/b", "a/b/c", "b", "c", "d"}[:1+r.Intn(7)] {
		s := someSet(r, body)
		s.Path = path
		if path != "" && len(t.Sets[0].Snaps) > 0 && r.Intn(2) == 0 {
			s.Origin = "@n0"
		}
		t.Sets = append(t.Sets, s)
	}
	for _, into := range []string{"a", "a/b", "new", "z/z"}[:r.Intn(5)] {
		begin := api.Record{Kind: 1, Name: "n", From: r.Intn(9), Guid: 1 + r.Intn(9)}
		t.Stages = append(t.Stages, api.Stage{Into: into, Begin: begin, Body: body(r), At: r.Intn(900), Done: r.Intn(2) == 0})
	}
	for range r.Intn(4) {
		t.Log = append(t.Log, api.Entry{User: "u", Kind: r.Intn(9), Path: "a"})
	}
	return t
}

// walk: visits x and all that it is made of.
func walk(x reflect.Value, visit func(x reflect.Value)) {
	visit(x)
	switch x.Kind() {
	case reflect.Struct:
		for i := range x.NumField() {
			walk(x.Field(i), visit)
		}
	case reflect.Slice:
		for i := range x.Len() {
			walk(x.Index(i), visit)
		}
	}
}

// listsOf: where each list of v stands.
func listsOf(v any) []reflect.Value {
	var out []reflect.Value
	walk(reflect.ValueOf(v).Elem(), func(x reflect.Value) {
		if x.Kind() == reflect.Slice {
			out = append(out, x)
		}
	})
	return out
}

// leavesOf: where each number, text and truth of v stands.
func leavesOf(v any) []reflect.Value {
	var out []reflect.Value
	walk(reflect.ValueOf(v).Elem(), func(x reflect.Value) {
		if x.Kind() != reflect.Slice && x.Kind() != reflect.Struct {
			out = append(out, x)
		}
	})
	return out
}

// deep: v in memory of its own, each list with so much room behind it, which is
// filled.
func deep[T any](v T, room int) T {
	var out T
	lay(reflect.ValueOf(&out).Elem(), reflect.ValueOf(&v).Elem(), room)
	return out
}

func lay(to, from reflect.Value, room int) {
	switch from.Kind() {
	case reflect.Struct:
		for i := range from.NumField() {
			lay(to.Field(i), from.Field(i), room)
		}
	case reflect.Slice:
		n := from.Len()
		to.Set(reflect.MakeSlice(from.Type(), n+room, n+room))
		for i := range n {
			lay(to.Index(i), from.Index(i), room)
		}
		for i := range room {
			fill(to.Index(n + i))
		}
		to.Set(to.Slice(0, n))
	case reflect.String:
		to.SetString(strings.Clone(from.String()))
	default:
		to.Set(from)
	}
}

// fill: no leaf is zero, and each list has one element.
func fill(x reflect.Value) {
	switch x.Kind() {
	case reflect.Struct:
		for i := range x.NumField() {
			fill(x.Field(i))
		}
	case reflect.Slice:
		x.Set(reflect.MakeSlice(x.Type(), 1, 1))
		fill(x.Index(0))
	case reflect.String:
		x.SetString("behind")
	case reflect.Bool:
		x.SetBool(true)
	case reflect.Uint64:
		x.SetUint(777)
	default:
		x.SetInt(777)
	}
}

// whole: all of v and of the room behind its lists.
func whole(v any) string {
	var b strings.Builder
	tell(reflect.ValueOf(v).Elem(), &b)
	return b.String()
}

func tell(x reflect.Value, b *strings.Builder) {
	switch x.Kind() {
	case reflect.Struct:
		for i := range x.NumField() {
			tell(x.Field(i), b)
		}
	case reflect.Slice:
		fmt.Fprintf(b, "%d of %d:", x.Len(), x.Cap())
		for i := range x.Cap() {
			tell(x.Slice(0, x.Cap()).Index(i), b)
		}
	default:
		fmt.Fprintf(b, "%#v,", x.Interface())
	}
}

// shortLists: all lists of at most n of these blocks.
func shortLists(n int, of ...api.Block) [][]api.Block {
	out := [][]api.Block{nil}
	for first := 0; n > 0; n-- {
		longest := out[first:]
		first = len(out)
		for _, l := range longest {
			for _, b := range of {
				out = append(out, append(slices.Clone(l), b))
			}
		}
	}
	return out
}
