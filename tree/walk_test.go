package tree_test

import (
	"fmt"
	"reflect"
	"strings"
	"testing"
	"unsafe"

	"godown/api"
)

// What the tests do to whatever a tenant is made of, told by its types alone.

// leaves: where each number, text and truth of v stands.
func leaves(v any) []reflect.Value {
	var out []reflect.Value
	walk(reflect.ValueOf(v).Elem(), func(x reflect.Value) {
		switch x.Kind() {
		case reflect.Struct, reflect.Slice:
		default:
			out = append(out, x)
		}
	})
	return out
}

// slicesOf: where each list of v stands.
func slicesOf(v any) []reflect.Value {
	var out []reflect.Value
	walk(reflect.ValueOf(v).Elem(), func(x reflect.Value) {
		if x.Kind() == reflect.Slice {
			out = append(out, x)
		}
	})
	return out
}

func walk(x reflect.Value, visit func(x reflect.Value)) {
	visit(x)
	switch x.Kind() {
	case reflect.Struct:
		for i := range x.NumField() {
			walk(x.Field(i), visit)
		}
	case reflect.Slice:
		for i := range x.Len() {
			walk(x.Index(i), visit)
		}
	}
}

// deep: v in memory of its own, each list with so much room behind it.
func deep[T any](v T, room int) T {
	var out T
	lay(reflect.ValueOf(&out).Elem(), reflect.ValueOf(&v).Elem(), room)
	return out
}

func lay(to, from reflect.Value, room int) {
	switch from.Kind() {
	case reflect.Struct:
		for i := range from.NumField() {
			lay(to.Field(i), from.Field(i), room)
		}
	case reflect.Slice:
		if from.IsNil() && room == 0 {
			return
		}
		n := from.Len()
		to.Set(reflect.MakeSlice(from.Type(), n+room, n+room))
		for i := range n {
			lay(to.Index(i), from.Index(i), room)
		}
		for i := range room {
			behind := 0
			fill(to.Index(n+i), 0, &behind)
		}
		to.Set(to.Slice(0, n))
	case reflect.String:
		to.SetString(strings.Clone(from.String()))
	default:
		to.Set(from)
	}
}

// fill: lists of n elements, and leaves that are each unlike all others.
func fill(x reflect.Value, n int, met *int) {
	*met++
	switch x.Kind() {
	case reflect.Struct:
		for i := range x.NumField() {
			fill(x.Field(i), n, met)
		}
	case reflect.Slice:
		x.Set(reflect.MakeSlice(x.Type(), n, n))
		for i := range n {
			fill(x.Index(i), n, met)
		}
	case reflect.String:
		x.SetString(fmt.Sprintf("text%d", *met))
	case reflect.Bool:
		x.SetBool(true)
	case reflect.Uint64:
		x.SetUint(uint64(*met))
	default:
		x.SetInt(int64(*met))
	}
}

// filled: a tenant with nothing zero; it may not be.
func filled(n int) api.Tenant {
	var t api.Tenant
	met := 0
	fill(reflect.ValueOf(&t).Elem(), n, &met)
	return t
}

// one: whether both are of the same leaves; nil and empty lists are one.
func one(a, b any) bool {
	return tell(reflect.ValueOf(a)) == tell(reflect.ValueOf(b))
}

// tell: all of x, each list by how many it has.
func tell(x reflect.Value) string {
	switch x.Kind() {
	case reflect.Struct:
		var b strings.Builder
		for i := range x.NumField() {
			b.WriteString(tell(x.Field(i)))
		}
		return b.String()
	case reflect.Slice:
		var b strings.Builder
		fmt.Fprintf(&b, "%d:", x.Len())
		for i := range x.Len() {
			b.WriteString(tell(x.Index(i)))
		}
		return b.String()
	case reflect.String:
		return fmt.Sprintf("%q,", x.String())
	}
	return fmt.Sprintf("%v,", x.Interface())
}

// whole: all of v and of the room behind its lists, as tell tells it.
func whole(v any) string {
	var b strings.Builder
	walkWhole(reflect.ValueOf(v).Elem(), &b)
	return b.String()
}

func walkWhole(x reflect.Value, b *strings.Builder) {
	switch x.Kind() {
	case reflect.Struct:
		for i := range x.NumField() {
			walkWhole(x.Field(i), b)
		}
	case reflect.Slice:
		fmt.Fprintf(b, "%d of %d:", x.Len(), x.Cap())
		for i := range x.Cap() {
			walkWhole(x.Slice(0, x.Cap()).Index(i), b)
		}
	default:
		b.WriteString(tell(x))
	}
}

// room: where something stands in memory.
type room struct {
	first, end uintptr
}

// rooms: of all lists and texts of v. (A text of one octet has none: the
// language makes no memory for it.)
func rooms[T any](v T) []room {
	var out []room
	walk(reflect.ValueOf(&v).Elem(), func(x reflect.Value) {
		switch {
		case x.Kind() == reflect.String && x.Len() > 1:
			at := uintptr(unsafe.Pointer(unsafe.StringData(x.String())))
			out = append(out, room{at, at + uintptr(x.Len())})
		case x.Kind() == reflect.Slice && x.Cap() > 0:
			at := x.Pointer()
			out = append(out, room{at, at + uintptr(x.Cap())*x.Type().Elem().Size()})
		}
	})
	return out
}

// mustShareNothing: what was answered, neither with what was handed in nor with
// anything else that was answered.
func mustShareNothing(t *testing.T, what string, given []room, answered ...[]room) {
	t.Helper()
	var met []room
	for _, l := range answered {
		for _, a := range l {
			for _, b := range given {
				if a.first < b.end && b.first < a.end {
					t.Fatalf("%s: an answer shares memory with what was handed in", what)
				}
			}
			for _, b := range met {
				if a.first < b.end && b.first < a.end {
					t.Fatalf("%s: answers share memory", what)
				}
			}
			met = append(met, a)
		}
	}
}

// TestTheTestsThemselves: that a change anywhere is one that the tests see.
func TestTheTestsThemselves(t *testing.T) {
	x := filled(2)
	if !one(x, deep(x, 0)) || !one(x, deep(x, 3)) || !one(api.Tenant{}, deep(api.Tenant{}, 3)) {
		t.Fatal("deep is not one with what it was made of")
	}
	y := deep(x, 0)
	mustShareNothing(t, "deep", rooms(x), rooms(y))
	if len(leaves(&x)) != 139 || len(slicesOf(&x)) != 26 {
		t.Fatal("leaves or lists are missing")
	}
	for i := range leaves(&x) {
		y := deep(x, 0)
		leaves(&y)[i].SetZero()
		if one(x, y) {
			t.Fatalf("leaf %d is not seen", i)
		}
	}
}
