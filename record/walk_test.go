package record_test

import (
	"fmt"
	"reflect"
	"strconv"
	"strings"
	"testing"
	"unsafe"
)

// What the tests do to whatever a call is handed or answers, told by its types
// alone.

func walk(x reflect.Value, visit func(x reflect.Value)) {
	visit(x)
	switch x.Kind() {
	case reflect.Struct:
		for i := range x.NumField() {
			walk(x.Field(i), visit)
		}
	case reflect.Slice:
		for i := range x.Len() {
			walk(x.Index(i), visit)
		}
	}
}

// leavesOf: where each number, text and truth of v stands.
func leavesOf(v any) []reflect.Value {
	var out []reflect.Value
	walk(reflect.ValueOf(v).Elem(), func(x reflect.Value) {
		if x.Kind() != reflect.Struct && x.Kind() != reflect.Slice {
			out = append(out, x)
		}
	})
	return out
}

// listsOf: where each list of v stands.
func listsOf(v any) []reflect.Value {
	var out []reflect.Value
	walk(reflect.ValueOf(v).Elem(), func(x reflect.Value) {
		if x.Kind() == reflect.Slice {
			out = append(out, x)
		}
	})
	return out
}

// deep: v in memory of its own, each list with so much room behind it, which is
// filled.
func deep[T any](v T, room int) T {
	var out T
	lay(reflect.ValueOf(&out).Elem(), reflect.ValueOf(&v).Elem(), room)
	return out
}

func lay(to, from reflect.Value, room int) {
	switch from.Kind() {
	case reflect.Struct:
		for i := range from.NumField() {
			lay(to.Field(i), from.Field(i), room)
		}
	case reflect.Slice:
		n := from.Len()
		if n+room == 0 {
			return
		}
		to.Set(reflect.MakeSlice(from.Type(), n+room, n+room))
		for i := range n {
			lay(to.Index(i), from.Index(i), room)
		}
		for i := range room {
			behind := 700
			fill(to.Index(n+i), 1, &behind)
		}
		to.Set(to.Slice(0, n))
	case reflect.String:
		to.SetString(strings.Clone(from.String()))
	default:
		to.Set(from)
	}
}

// fill: lists of n elements, and leaves that are each unlike all others.
func fill(x reflect.Value, n int, met *int) {
	*met++
	switch x.Kind() {
	case reflect.Struct:
		for i := range x.NumField() {
			fill(x.Field(i), n, met)
		}
	case reflect.Slice:
		x.Set(reflect.MakeSlice(x.Type(), n, n))
		for i := range n {
			fill(x.Index(i), n, met)
		}
	case reflect.String:
		x.SetString(fmt.Sprintf("text%d", *met))
	case reflect.Bool:
		x.SetBool(true)
	case reflect.Uint64, reflect.Uint8:
		x.SetUint(uint64(*met))
	default:
		x.SetInt(int64(*met))
	}
}

// filled: a value with nothing zero.
func filled[T any](n int) T {
	var out T
	met := 0
	fill(reflect.ValueOf(&out).Elem(), n, &met)
	return out
}

// one: whether both are of the same leaves; nil and empty lists are one.
func one(a, b any) bool {
	return told(a) == told(b)
}

// told: all of v, each list by how many it has.
func told(v any) string {
	var b strings.Builder
	tell(reflect.ValueOf(v), &b, func(l reflect.Value) reflect.Value {
		count(&b, l.Len())
		return l
	})
	return b.String()
}

// whole: all of v, and of the room behind its lists.
func whole(v any) string {
	var b strings.Builder
	tell(reflect.ValueOf(v).Elem(), &b, func(l reflect.Value) reflect.Value {
		count(&b, l.Len())
		count(&b, l.Cap())
		return l.Slice(0, l.Cap())
	})
	return b.String()
}

func tell(x reflect.Value, b *strings.Builder, list func(l reflect.Value) reflect.Value) {
	switch x.Kind() {
	case reflect.Struct:
		for i := range x.NumField() {
			tell(x.Field(i), b, list)
		}
	case reflect.Slice:
		l := list(x)
		if octets, is := l.Interface().([]byte); is {
			b.Write(octets)
			return
		}
		for i := range l.Len() {
			tell(l.Index(i), b, list)
		}
	case reflect.String:
		count(b, x.Len())
		b.WriteString(x.String())
	case reflect.Int:
		count(b, int(x.Int()))
	default:
		fmt.Fprint(b, x.Interface(), ",")
	}
}

func count(b *strings.Builder, n int) {
	b.WriteString(strconv.Itoa(n))
	b.WriteByte(':')
}

// brief: the front of what v is, so that a fault can be read.
func brief(v any) string {
	s := fmt.Sprintf("%+v", v)
	return s[:min(len(s), 600)]
}

// room: where something stands in memory.
type room struct {
	first, end uintptr
}

// roomsOf: of all lists and texts of v. (A text of one octet has none: the
// language makes no memory for it.)
func roomsOf[T any](v T) []room {
	var out []room
	walk(reflect.ValueOf(&v).Elem(), func(x reflect.Value) {
		switch {
		case x.Kind() == reflect.String && x.Len() > 1:
			at := uintptr(unsafe.Pointer(unsafe.StringData(x.String())))
			out = append(out, room{at, at + uintptr(x.Len())})
		case x.Kind() == reflect.Slice && x.Cap() > 0:
			at := x.Pointer()
			out = append(out, room{at, at + uintptr(x.Cap())*x.Type().Elem().Size()})
		}
	})
	return out
}

// mustShareNothing: the answers, neither with what was handed in nor with each
// other, nor within one.
func mustShareNothing(t *testing.T, what string, given []room, answers ...reply) {
	t.Helper()
	var met []room
	for _, x := range answers {
		for _, a := range roomsOf(x) {
			for _, b := range given {
				if a.first < b.end && b.first < a.end {
					t.Fatalf("%s: an answer shares memory with what was handed in", what)
				}
			}
			for _, b := range met {
				if a.first < b.end && b.first < a.end {
					t.Fatalf("%s: answers share memory", what)
				}
			}
			met = append(met, a)
		}
	}
}

// TestTheTestsThemselves: that a change anywhere is one that the tests see.
func TestTheTestsThemselves(t *testing.T) {
	x := filled[given](2)
	if !one(x, deep(x, 0)) || !one(x, deep(x, 3)) || !one(given{}, deep(given{}, 3)) {
		t.Fatal("deep is not one with what it was made of")
	}
	mustShareNothing(t, "deep", roomsOf(x), reply{Record: deep(x.R, 0)}, reply{Record: deep(x.R, 2)}, reply{Octets: []byte{1, 2}})
	if len(leavesOf(&x)) != 32 || len(listsOf(&x)) != 3 {
		t.Fatal("leaves or lists are missing")
	}
	for i := range leavesOf(&x) {
		y := deep(x, 0)
		leavesOf(&y)[i].SetZero()
		if one(x, y) || whole(&x) == whole(&y) {
			t.Fatalf("leaf %d is not seen", i)
		}
	}
	for i := range listsOf(&x) {
		y := deep(x, 1)
		ahead := whole(&y)
		l := listsOf(&y)[i]
		l.Slice(0, l.Cap()).Index(l.Len()).SetZero()
		if whole(&y) == ahead || !one(x, y) {
			t.Fatalf("what stands behind list %d is not seen", i)
		}
	}
}
