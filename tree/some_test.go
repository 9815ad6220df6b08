package tree_test

import (
	"fmt"
	"math"
	"math/rand"
	"reflect"
	"slices"
	"strings"

	"godown/api"
)

// Tenants made by chance, and what is done to one by chance.

// elementEdits: what is done to a list at a place of it.
var elementEdits = map[string]func(l reflect.Value, at int){
	"dropped": func(l reflect.Value, at int) {
		l.Set(reflect.AppendSlice(l.Slice3(0, at, at), l.Slice(at+1, l.Len())))
	},
	"doubled": func(l reflect.Value, at int) {
		ahead := reflect.Append(l.Slice3(0, at, at), l.Index(at))
		l.Set(reflect.AppendSlice(ahead, l.Slice(at, l.Len())))
	},
	"doubled at the end": func(l reflect.Value, at int) { l.Set(reflect.Append(l, l.Index(at))) },
	"made zero":          func(l reflect.Value, at int) { l.Index(at).SetZero() },
	"last":               func(l reflect.Value, at int) { l.Set(l.Slice(0, at+1)) },
	"first":              func(l reflect.Value, at int) { l.Set(l.Slice(at, l.Len())) },
	"changed with the next one": func(l reflect.Value, at int) {
		if at+1 < l.Len() {
			reflect.Swapper(l.Interface())(at, at+1)
		}
	},
}

// stock: names that sets, snapshots and tags have.
var stock = []string{"a", "a-", "a0", "a_", "aa", "b", "b-c", "c", "monday", "old", "z", longestName}

// pick: one of them.
func pick[T any](r *rand.Rand, l []T) T {
	return l[r.Intn(len(l))]
}

// part: some of them, in their order.
func part[T any](r *rand.Rand, l []T, most int) []T {
	var out []T
	for _, i := range r.Perm(len(l))[:r.Intn(min(most, len(l))+1)] {
		out = append(out, l[i])
	}
	return out
}

func someBody(r *rand.Rand) []api.Block {
	var at []int
	for range r.Intn(4) {
		at = append(at, pick(r, []int{0, 1, 2, 3, 511, 1022, 1023}))
	}
	slices.Sort(at)
	return content(slices.Compact(at)...)
}

func someOwn(r *rand.Rand) []api.Prop {
	var out []api.Prop
	for _, name := range part(r, []string{"a", "b", "c", "d", "atime", "quota", "z", "-", "_"}, pick(r, []int{0, 1, 3, 8})) {
		out = append(out, api.Prop{Name: name, Value: strings.Repeat(pick(r, []string{"on", "~", " "}), r.Intn(17))})
	}
	slices.SortFunc(out, func(a, b api.Prop) int { return strings.Compare(a.Name, b.Name) })
	return out
}

func someSnaps(r *rand.Rand) []api.Snap {
	var out []api.Snap
	guid := 0
	for _, name := range part(r, stock, pick(r, []int{0, 1, 3, 12})) {
		guid += 1 + pick(r, []int{0, 1, 5, maxAmount / 16})
		n := api.Snap{Name: name, Guid: min(guid, maxAmount), Body: someBody(r), Own: someOwn(r)}
		if r.Intn(3) == 0 {
			n.Tags = part(r, stock, 4)
			slices.Sort(n.Tags)
		}
		out = append(out, n)
	}
	return out
}

// somePaths: closed under parents, rising.
func somePaths(r *rand.Rand, most int) []string {
	out := []string{""}
	for len(out) < most {
		under := pick(r, out)
		if strings.Count(under, "/") == 3 {
			continue
		}
		path := pick(r, stock)
		if under != "" {
			path = under + "/" + path
		}
		if !slices.Contains(out, path) {
			out = append(out, path)
		}
	}
	slices.Sort(out)
	return out
}

func someSets(r *rand.Rand) []api.Set {
	var out []api.Set
	var snaps []string
	for _, path := range somePaths(r, pick(r, []int{1, 2, 4, 8, 32})) {
		s := api.Set{Path: path, Body: someBody(r), Own: someOwn(r), Snaps: someSnaps(r)}
		for _, n := range s.Snaps {
			snaps = append(snaps, path+"@"+n.Name)
		}
		out = append(out, s)
	}
	for i, s := range out {
		if len(snaps) == 0 || r.Intn(2) == 0 {
			continue
		}
		if origin := pick(r, snaps); !strings.HasPrefix(origin, s.Path+"@") {
			out[i].Origin = origin
		}
	}
	return out
}

// some: a tenant that may be.
func some(r *rand.Rand) api.Tenant {
	amounts := []int{0, 1, 5, 1000, maxAmount - 1, maxAmount}
	t := api.Tenant{Name: pick(r, stock), Quota: pick(r, amounts), Next: pick(r, amounts[1:]), Sets: someSets(r)}
	for _, user := range part(r, stock, 3) {
		for _, path := range part(r, []string{"", "a", "a/b", "z"}, 4) {
			t.Grants = append(t.Grants, api.Grant{User: user, Path: path, Perms: 1 + r.Intn(255)})
		}
	}
	slices.SortFunc(t.Grants, func(a, b api.Grant) int { return strings.Compare(a.User+"\x00"+a.Path, b.User+"\x00"+b.Path) })
	for _, into := range part(r, somePaths(r, 6)[1:], 4) {
		b := api.Record{Kind: 1, Name: pick(r, stock), From: pick(r, amounts), Guid: pick(r, amounts[1:]), Own: someOwn(r)}
		t.Stages = append(t.Stages, api.Stage{Into: into, Begin: b, Body: someBody(r), At: pick(r, amounts), Next: pick(r, amounts), Sum: api.Sum{A: r.Uint64(), B: r.Uint64(), D: 1}, Done: r.Intn(2) == 0})
	}
	slices.SortFunc(t.Stages, func(a, b api.Stage) int { return strings.Compare(a.Into, b.Into) })
	for range r.Intn(17) {
		t.Log = append(t.Log, api.Entry{User: pick(r, append(stock, "")), Kind: pick(r, amounts), Path: pick(r, []string{"", "a", "a/b/c/d"}), Err: api.Errno(pick(r, amounts))})
	}
	return t
}

// breakOne: one leaf is changed to an edge, or one list; the tenant may still
// be one that may be.
func breakOne(r *rand.Rand, x *api.Tenant) {
	if lists := slicesOf(x); r.Intn(3) == 0 {
		l := pick(r, lists)
		if l.Len() == 0 {
			l.Set(reflect.MakeSlice(l.Type(), 1, 1))
			return
		}
		edits := []string{"dropped", "doubled", "doubled at the end", "made zero", "last", "first", "changed with the next one"}
		elementEdits[pick(r, edits)](l, r.Intn(l.Len()))
		return
	}
	spoil(r, pick(r, leaves(x)))
}

// spoil: the leaf is changed, to an edge or just beside what it is.
func spoil(r *rand.Rand, leaf reflect.Value) {
	switch leaf.Kind() {
	case reflect.Bool:
		leaf.SetBool(!leaf.Bool())
	case reflect.Uint64:
		leaf.SetUint(pick(r, []uint64{0, 1, math.MaxUint64}))
	case reflect.String:
		leaf.SetString(pick(r, append(textEdges, leaf.String()+"/", leaf.String()+"-", leaf.String()+"\x00", fmt.Sprint(r.Intn(9)))))
	default:
		leaf.SetInt(pick(r, []int64{leaf.Int() - 1, leaf.Int() + 1, int64(pick(r, numberEdges))}))
	}
}
