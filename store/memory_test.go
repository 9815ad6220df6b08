package store_test

import (
	"fmt"
	"math"
	"math/rand"
	"reflect"
	"slices"
	"testing"
	"unsafe"

	"godown/api"
	"godown/device"
	"godown/store"
)

// P10.5, and P1 to P3 of DOC.md

// span: where a list, with the room behind it, or a text stands.
type span struct {
	first, end uintptr
}

// spansOf: of all lists and texts that a value has; of a text of one octet
// none, since the language makes no memory for it.
func spansOf(v reflect.Value) []span {
	var out []span
	switch v.Kind() {
	case reflect.Slice:
		if v.Cap() > 0 {
			at := v.Pointer()
			out = append(out, span{at, at + uintptr(v.Cap())*v.Type().Elem().Size()})
		}
		if v.Type().Elem().Kind() == reflect.Uint8 {
			return out
		}
		for i := range v.Len() {
			out = append(out, spansOf(v.Index(i))...)
		}
	case reflect.Struct:
		for i := range v.NumField() {
			out = append(out, spansOf(v.Field(i))...)
		}
	case reflect.String:
		if s := v.String(); len(s) > 1 {
			at := uintptr(unsafe.Pointer(unsafe.StringData(s)))
			out = append(out, span{at, at + uintptr(len(s))})
		}
	}
	return out
}

// mustShareNothing: the answers with the arguments, and with each other.
func mustShareNothing(t *testing.T, what string, args []any, answers ...any) {
	t.Helper()
	var given, made []span
	for _, a := range args {
		given = append(given, spansOf(reflect.ValueOf(a))...)
	}
	for _, a := range answers {
		made = append(made, spansOf(reflect.ValueOf(a))...)
	}
	slices.SortFunc(given, bySpan)
	slices.SortFunc(made, bySpan)
	for i := 1; i < len(made); i++ {
		if made[i].first < made[i-1].end {
			t.Fatalf("%s: lists of what it answers share memory", what)
		}
	}
	g := 0
	for _, m := range made {
		for g < len(given) && given[g].end <= m.first {
			g++
		}
		if g < len(given) && given[g].first < m.end {
			t.Fatalf("%s: what it answers shares memory with what was handed in", what)
		}
	}
}

func bySpan(a, b span) int {
	if a.first != b.first {
		if a.first < b.first {
			return -1
		}
		return 1
	}
	return 0
}

// roomy: a copy of a value whose lists all have room behind them, which is
// filled.
func roomy[T any](v T) T {
	return roomyValue(reflect.ValueOf(v)).Interface().(T)
}

func roomyValue(v reflect.Value) reflect.Value {
	out := reflect.New(v.Type()).Elem()
	switch v.Kind() {
	case reflect.Slice:
		list := reflect.MakeSlice(v.Type(), v.Len()+3, v.Len()+3)
		for i := range list.Len() {
			if i < v.Len() {
				list.Index(i).Set(roomyValue(v.Index(i)))
			} else {
				fill(list.Index(i))
			}
		}
		out.Set(list.Slice(0, v.Len()))
	case reflect.Struct:
		for i := range v.NumField() {
			out.Field(i).Set(roomyValue(v.Field(i)))
		}
	default:
		out.Set(v)
	}
	return out
}

// fill: what stands in the room behind a list.
func fill(v reflect.Value) {
	switch v.Kind() {
	case reflect.Uint8:
		v.SetUint(0xee)
	case reflect.Int:
		v.SetInt(-777)
	case reflect.Slice:
		v.Set(reflect.MakeSlice(v.Type(), 5, 5))
	case reflect.Struct:
		for i := range v.NumField() {
			if v.Field(i).Kind() != reflect.String {
				fill(v.Field(i))
			}
		}
	}
}

// wholeOf: all that a value has, with the room behind each of its lists.
func wholeOf(v any) string {
	return fmt.Sprint(wholeValue(reflect.ValueOf(v)).Interface())
}

func wholeValue(v reflect.Value) reflect.Value {
	out := reflect.New(v.Type()).Elem()
	switch v.Kind() {
	case reflect.Slice:
		all := v.Slice(0, v.Cap())
		list := reflect.MakeSlice(v.Type(), all.Len(), all.Len())
		for i := range all.Len() {
			list.Index(i).Set(wholeValue(all.Index(i)))
		}
		out.Set(list)
	case reflect.Struct:
		for i := range v.NumField() {
			out.Field(i).Set(wholeValue(v.Field(i)))
		}
	default:
		out.Set(v)
	}
	return out
}

// cases: stores and lists, with and without an error.
func cases(t *testing.T) map[string]struct {
	s api.Store
	l []api.Object
} {
	out := kinds(t)
	s := committed(t, 40, objects(60, 0, 52))
	for what, k := range map[string][]api.Object{
		"keys that fall": {{Key: "bb", Data: text(1, 9), At: []int{4, 5}}, {Key: "aa"}},
		"too long":       {{Key: "bb", Data: text(1, maxField+1)}},
		"no room":        objects(60, 0, 52, 3000),
	} {
		x := out["one new"]
		x.s, x.l = s, k
		out[what] = x
	}
	x := out["one new"]
	x.s = but(x.s, func(s *api.Store) { s.Uber.Txg = maxAmount })
	out["the last Txg"] = x
	x.s = but(x.s, func(s *api.Store) { s.Index[0] = 1 })
	out["a store that may not be"] = x
	return out
}

func TestArgumentsStay(t *testing.T) {
	for what, k := range cases(t) {
		s, l := roomy(k.s), roomy(k.l)
		ahead, aheadList := wholeOf(s), wholeOf(l)
		store.Check(s)
		store.Commit(s, l)
		store.Commit(s, s.Objects)
		store.Open(s.Dev)
		store.Get(s, "a")
		store.Used(s)
		store.Need(l)
		store.Need(s.Objects)
		if wholeOf(s) != ahead || wholeOf(l) != aheadList {
			t.Errorf("%s: what was handed in was changed", what)
		}
	}
	for what, s := range mayNotBe() {
		if len(s.Dev.Sectors) > 100 {
			continue
		}
		s = roomy(s)
		ahead := wholeOf(s)
		store.Check(s)
		store.Commit(s, s.Objects)
		store.Open(s.Dev)
		store.Get(s, "c")
		store.Used(s)
		if wholeOf(s) != ahead {
			t.Errorf("%s was changed", what)
		}
	}
	// An index of a device is read as far as it is one.
	s := roomy(put(good().Dev, 18, pageOf([]byte("none"), 0)))
	ahead := wholeOf(s)
	store.Open(s)
	if wholeOf(s) != ahead {
		t.Error("a device that has no store was changed")
	}
}

func TestAnswersShareNoMemory(t *testing.T) {
	for what, k := range cases(t) {
		s, l := roomy(k.s), roomy(k.l)
		for _, list := range [][]api.Object{l, s.Objects} {
			one, oneActs, _ := store.Commit(s, list)
			two, twoActs, _ := store.Commit(s, list)
			mustShareNothing(t, "Commit of "+what, []any{s, list}, one, oneActs, two, twoActs)
			three, threeActs, _ := store.Commit(one, list)
			mustShareNothing(t, "a second Commit of "+what, []any{s, list, one, oneActs}, three, threeActs)
		}
		one, _ := store.Open(s.Dev)
		two, _ := store.Open(s.Dev)
		mustShareNothing(t, "Open of "+what, []any{s.Dev}, one, two)
		for _, o := range s.Objects {
			one, _ := store.Get(s, o.Key)
			two, _ := store.Get(s, o.Key)
			mustShareNothing(t, "Get of "+what, []any{s}, one, two)
		}
	}
	for _, n := range []int{2, 3, 100} {
		one, oneActs, _ := store.Format(n)
		two, twoActs, _ := store.Format(n)
		mustShareNothing(t, "Format", nil, one, oneActs, two, twoActs)
	}
}

// TestListsThatShareMemoryAmongThemselves: of what is handed in, all lists may
// be one; what is answered is new all the same.
func TestListsThatShareMemoryAmongThemselves(t *testing.T) {
	b := text(1, 200)
	l := []api.Object{{Key: "aa", Data: b[:60]}, {Key: "bb", Data: b[:60]}, {Key: "cc", Data: b[10:]}}
	s := committed(t, 60, l)
	for i, at := range s.Dev.Sectors {
		if slices.Equal(at, make([]byte, sector)) {
			s.Dev.Sectors[i] = s.Dev.Sectors[59]
		}
	}
	ahead, before := wholeOf(s), wholeOf(l)
	for _, list := range [][]api.Object{l, s.Objects, {l[2]}} {
		want, wantActs, _ := wantCommit(s, list)
		out, acts, err := store.Commit(s, list)
		if err != api.OK || !same(out, want) || !sameActs(acts, wantActs) {
			t.Errorf("lists that share memory: %v, %d", out.Uber, err)
		}
		mustShareNothing(t, "Commit of lists that share memory", []any{s, list}, out, acts)
	}
	o, err := store.Open(s.Dev)
	if err != api.OK || !same(o, s) {
		t.Errorf("sectors that share memory: %v, %d", o.Uber, err)
	}
	mustShareNothing(t, "Open of sectors that share memory", []any{s}, o)
	if wholeOf(s) != ahead || wholeOf(l) != before {
		t.Error("lists that share memory were changed")
	}
}

// TestTheSameEachTime: whatever was asked ahead, and in whatever order maps
// are gone through.
func TestTheSameEachTime(t *testing.T) {
	for what, k := range cases(t) {
		first, firstActs, firstErr := store.Commit(k.s, k.l)
		opened, openedErr := store.Open(first.Dev)
		for range 5 {
			store.Commit(good(), objects(1, 2, 3))
			store.Open(good().Dev)
			store.Format(5)
			s, acts, err := store.Commit(k.s, k.l)
			if err != firstErr || !reflect.DeepEqual(s, first) || !reflect.DeepEqual(acts, firstActs) {
				t.Fatalf("Commit of %s answers unlike each time", what)
			}
			if o, err := store.Open(first.Dev); err != openedErr || !reflect.DeepEqual(o, opened) {
				t.Fatalf("Open of %s answers unlike each time", what)
			}
		}
	}
}

// TestNilAndEmptyAreOne: P1 of DOC.md.
func TestNilAndEmptyAreOne(t *testing.T) {
	full := []api.Object{{Key: "a", Data: []byte{}, At: []int{}}, {Key: "b", Data: text(1, 3), At: []int{}}}
	none := []api.Object{{Key: "a"}, {Key: "b", Data: text(1, 3)}}
	empty := func(s *api.Store) { s.Objects, s.Index, s.Dev.Waits = []api.Object{}, []int{}, []api.Write{} }
	one, oneActs, oneErr := store.Commit(made(9), none)
	two, twoActs, twoErr := store.Commit(but(made(9), empty), full)
	if oneErr != api.OK || twoErr != api.OK || !reflect.DeepEqual(one, two) || !reflect.DeepEqual(oneActs, twoActs) {
		t.Error("Commit tells no list and an empty one apart")
	}
	two.Objects[0].Data, two.Objects[0].At, two.Dev.Waits = []byte{}, []int{}, []api.Write{}
	if store.Check(two) != api.OK || store.Used(two) != store.Used(one) || store.Need(full) != store.Need(none) {
		t.Error("Check, Used or Need tell no list and an empty one apart")
	}
	for _, l := range [][]api.Object{none, full} {
		mustCommit(t, one, l, "of none that are there")
		mustCommit(t, two, l, "of empty lists that are there")
	}
	one, _, _ = store.Commit(one, nil)
	two, _, _ = store.Commit(two, []api.Object{})
	if !reflect.DeepEqual(one, two) {
		t.Error("Commit tells none and an empty list apart")
	}
	for _, s := range []api.Store{one, two} {
		if b, is := store.Get(but(s, empty), ""); is || b != nil {
			t.Error("Get of an empty list")
		}
	}
	d := made(9).Dev
	d.Waits = []api.Write{}
	mustOpen(t, d, made(9), "a device with an empty list of what waits")
}

// anything: what stands in stores and lists that may be anything.
type anything struct {
	*rand.Rand
}

func (r anything) place() int {
	places := []int{math.MinInt, -1, 0, 1, 2, 3, 5, 19, 20, maxSectors - 1, maxSectors, 1 << 32, maxAmount, math.MaxInt}
	return places[r.Intn(len(places))]
}

func (r anything) places() []int {
	var out []int
	for range r.Intn(4) {
		out = append(out, r.place())
	}
	return out
}

func (r anything) objects() []api.Object {
	var out []api.Object
	for range r.Intn(4) {
		out = append(out, api.Object{Key: string(text(r.Intn(9), r.Intn(3))), Data: text(1, r.Intn(110)), At: r.places()})
	}
	return out
}

// tamper: changes one thing of the store.
func (r anything) tamper(s *api.Store) {
	switch r.Intn(11) {
	case 0:
		s.Dev.Sectors = nil
	case 1:
		s.Dev.Sectors = s.Dev.Sectors[:r.Intn(len(s.Dev.Sectors)+1)]
	case 2:
		s.Dev.Waits = []api.Write{{At: r.place(), Data: text(1, 63+r.Intn(3))}}
	case 3:
		s.Uber = api.Uber{Txg: r.place(), First: r.place(), Objects: r.place()}
	case 4:
		s.Uber.First = r.place()
	case 5:
		s.Objects = r.objects()
	case 6:
		s.Objects = nil
	case 7:
		s.Index = r.places()
	case 8:
		for i := range s.Dev.Sectors {
			s.Dev.Sectors[i] = pageOf(text(i, r.Intn(53)), r.Intn(20))
		}
	case 9:
		for i := range s.Objects {
			s.Objects[i].At = r.places()
		}
	case 10:
		if len(s.Dev.Sectors) > 1 {
			s.Dev.Sectors[1] = uberOf(api.Uber{Txg: 1 + r.Intn(9), First: r.Intn(30), Objects: r.Intn(300)})
		}
	}
}

// TestNothingPanics: and each call answers what Check of the store lets it.
func TestNothingPanics(t *testing.T) {
	r := anything{rand.New(rand.NewSource(109))}
	for range 5000 {
		s, l := good(), r.objects()
		for range r.Intn(4) {
			r.tamper(&s)
		}
		err := store.Check(s)
		if err == api.OK {
			mustCommit(t, s, l, "of anything")
		} else {
			mustNotCommit(t, s, l, api.ErrState, "into anything")
		}
		if o, err := store.Open(s.Dev); err != api.OK && !isZero(o) || err == api.OK && store.Check(o) != api.OK {
			t.Fatalf("Open %d", err)
		}
		if device.Check(s.Dev) != api.OK && err != api.ErrState {
			t.Fatalf("Check %d of a device that may not be", err)
		}
		store.Get(s, string(text(r.Intn(9), 1)))
		store.Used(s)
		store.Need(l)
		store.Need(s.Objects)
		store.Format(r.place())
	}
}

// TestVeryLongListsEnd: no number of places is too many to be told.
func TestVeryLongListsEnd(t *testing.T) {
	s := api.Store{Dev: good().Dev, Uber: good().Uber, Index: make([]int, 1<<20)}
	if store.Used(s) != 1<<20 || store.Check(s) != api.ErrState {
		t.Error("a store of a very long index")
	}
	s.Objects = make([]api.Object, 1<<16)
	for i := range s.Objects {
		s.Objects[i].At = s.Index
	}
	if store.Check(s) != api.ErrState || store.Need(s.Objects) != pagesOf(2+17<<16) {
		t.Error("a store of very many objects")
	}
	mustNotCommit(t, s, s.Objects, api.ErrState, "into a store of very long lists")
	s = good()
	s.Index = make([]int, 1<<20)
	if store.Check(s) != api.ErrState {
		t.Error("a good store with a very long index")
	}
	mustNotCommit(t, good(), make([]api.Object, 1<<16), api.ErrCount, "of very many objects")
}
