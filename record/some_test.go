package record_test

import (
	"fmt"
	"math"
	"math/rand"
	"slices"
	"strings"

	"godown/api"
)

// What the tests are made of: records of each kind, texts and octets.

var longestName = strings.Repeat("b", 16)

// own: properties, each told as name=value.
func own(l ...string) []api.Prop {
	var out []api.Prop
	for _, s := range l {
		name, value, _ := strings.Cut(s, "=")
		out = append(out, api.Prop{Name: name, Value: value})
	}
	return out
}

// fullOwn: n properties of the longest Names and Values.
func fullOwn(n int) []api.Prop {
	var out []api.Prop
	for i := range n {
		out = append(out, api.Prop{Name: fmt.Sprintf("%016d", i), Value: strings.Repeat("~", 32)})
	}
	return out
}

// The records that the tables begin with, one of each kind.
func aBegin() api.Record {
	return api.Record{Kind: 1, Name: "monday", From: 3, Guid: 258, Own: own("atime=on", "copies=", "x=a b")}
}

func aWrite() api.Record {
	return api.Record{Kind: 2, Index: 515, Data: "0123456789abcdef"}
}

func aFree() api.Record {
	return api.Record{Kind: 3, Index: 258, Count: 7}
}

func anEnd() api.Record {
	return api.Record{Kind: 4, Sum: api.Sum{A: 1, B: 2, C: 3 << 32, D: math.MaxUint64 - 3}}
}

func ofEachKind() []api.Record {
	return []api.Record{aBegin(), aWrite(), aFree(), anEnd()}
}

// onto: a record to which it is done.
func onto(r api.Record, do func(r *api.Record)) api.Record {
	do(&r)
	return r
}

// begins: those that may be.
func begins() []api.Record {
	var out []api.Record
	add := func(do func(r *api.Record)) { out = append(out, onto(aBegin(), do)) }
	for _, s := range []string{"a", "z", "0", "9", "-", "_", "a-b_c", longestName, "abcdefghijklmnop", "qrstuvwxyz", "0123456789-_"} {
		add(func(r *api.Record) { r.Name = s })
	}
	for _, n := range []int{0, 1, 2, 255, 256, 257, 258, 259, 1 << 32, maxAmount - 1, maxAmount} {
		add(func(r *api.Record) { r.From = n })
		if n > 0 {
			add(func(r *api.Record) { r.Guid = n })
			add(func(r *api.Record) { r.From, r.Guid = n, n })
			add(func(r *api.Record) { r.From, r.Guid = 0, n })
			add(func(r *api.Record) { r.From, r.Guid = n, 1 })
		}
	}
	for n := range maxProps + 1 {
		add(func(r *api.Record) { r.Own = fullOwn(n) })
	}
	for _, l := range [][]api.Prop{own("a="), own("a=", "b="), own("a=~ ~"), own("a= ", "b=!"), own("-=x", "0=x", "_=x", "a=x"), own(longestName + "=" + strings.Repeat(" ", 32)), own("monday=258")} {
		add(func(r *api.Record) { r.Own = l })
	}
	return append(out, api.Record{Kind: 1, Name: "a", Guid: 1})
}

// writes: those that may be.
func writes() []api.Record {
	var out []api.Record
	for _, i := range []int{0, 1, 2, 255, 256, 511, 512, maxIndex - 2, maxIndex - 1} {
		for _, s := range []string{aWrite().Data, strings.Repeat("\x00", 16), strings.Repeat("\xff", 16), "0123456789 @/é~\x00"[:16], "\x00\x01\x02\x03\x04\x05\x06\x07\x00\x00\x10\x00\x00\x00\x00\x00"} {
			out = append(out, api.Record{Kind: 2, Index: i, Data: s})
		}
	}
	return out
}

// frees: those that may be.
func frees() []api.Record {
	var out []api.Record
	for _, i := range []int{0, 1, 255, 256, 512, maxIndex - 2, maxIndex - 1} {
		for _, n := range []int{1, 2, 255, 256, 512, maxIndex - i - 1, maxIndex - i} {
			if n > 0 && n <= maxIndex-i {
				out = append(out, api.Record{Kind: 3, Index: i, Count: n})
			}
		}
	}
	return out
}

// ends: all may be.
func ends() []api.Record {
	var out []api.Record
	for _, n := range []uint64{1, 255, 256, 1<<32 - 1, 1 << 32, 1<<62 - 1, 1 << 62, 1<<63 - 1, 1 << 63, math.MaxUint64} {
		for _, s := range []api.Sum{{A: n}, {B: n}, {C: n}, {D: n}, {A: n, B: n, C: n, D: n}, {A: n, B: 2, C: 3, D: 4}} {
			out = append(out, api.Record{Kind: 4, Sum: s})
		}
	}
	return append(out, api.Record{Kind: 4})
}

// good: records that may be.
func good() []api.Record {
	return slices.Concat(ofEachKind(), begins(), writes(), frees(), ends())
}

// noNames: what no snapshot and no property is called.
func noNames() []string {
	return []string{"", "/", "a/b", "@", "a@b", "A", "bC", "b c", " b", "b ", "b.c", "b:c", "é", "b\x00", "\x00", "\xff", "b\n", "`", "{", "^", ",", ".", ":", longestName + "b", strings.Repeat("b", 17), strings.Repeat("b", 1000)}
}

// noOwns: properties that may not be.
func noOwns() [][]api.Prop {
	out := [][]api.Prop{
		fullOwn(9), make([]api.Prop, 9), own("b=1", "a=1"), own("a=1", "a=1"), own("a=1", "a=2"), own("a=", "b=", "b="), own("a=1", "c=1", "b=1"),
		own("a=" + strings.Repeat("x", 33)), own("a=\x1f"), own("a=\x7f"), own("a=é"), own("a=\n"), own("a=x\x00"), own("a=1", "b=\xff"), own("a="+strings.Repeat("x", 1000), "b="),
	}
	for _, s := range noNames() {
		out = append(out, []api.Prop{{Name: s, Value: "x"}}, []api.Prop{{Name: "-", Value: "x"}, {Name: s, Value: "x"}})
	}
	return out
}

// badNumbers: no amount and no index is one of them.
func badNumbers() []int {
	return []int{-1, -2, -maxIndex, -maxAmount, math.MinInt, math.MinInt + 1, maxAmount + 1, maxNumber, maxNumber + 1, math.MaxInt - 1, math.MaxInt}
}

// bad: records of the four kinds that may not be, for what the fields of their
// own kind are.
func bad() []api.Record {
	var out []api.Record
	add := func(r api.Record, do func(r *api.Record)) { out = append(out, onto(r, do)) }
	for _, s := range noNames() {
		add(aBegin(), func(r *api.Record) { r.Name = s })
	}
	for _, l := range noOwns() {
		add(aBegin(), func(r *api.Record) { r.Own = l })
	}
	for _, n := range badNumbers() {
		add(aBegin(), func(r *api.Record) { r.From = n })
		add(aBegin(), func(r *api.Record) { r.Guid = n })
		add(aWrite(), func(r *api.Record) { r.Index = n })
		add(aFree(), func(r *api.Record) { r.Index = n })
		add(aFree(), func(r *api.Record) { r.Index, r.Count = n, 1 })
		add(aFree(), func(r *api.Record) { r.Index, r.Count = n, -n })
		for _, r := range frees() {
			add(r, func(r *api.Record) { r.Count = n })
		}
	}
	add(aBegin(), func(r *api.Record) { r.Guid = 0 })
	for _, n := range []int{maxIndex, maxIndex + 1, 2 * maxIndex, 1 << 16, 1<<16 + 1, 1 << 32, maxAmount} {
		add(aWrite(), func(r *api.Record) { r.Index = n })
		add(aFree(), func(r *api.Record) { r.Index = n })
		add(aFree(), func(r *api.Record) { r.Index, r.Count = n, 0 })
		add(aFree(), func(r *api.Record) { r.Index, r.Count = n, maxIndex-n })
	}
	for _, n := range []int{0, 1, 2, 8, 15, 17, 18, 32, 64, 1000} {
		add(aWrite(), func(r *api.Record) { r.Data = strings.Repeat("d", n) })
	}
	for _, i := range []int{0, 1, 2, 512, maxIndex - 2, maxIndex - 1} {
		for _, n := range []int{0, maxIndex - i + 1, maxIndex - i + 2, maxIndex + 1, 1 << 16, maxAmount, math.MaxInt - i, math.MinInt + i} {
			out = append(out, api.Record{Kind: 3, Index: i, Count: n})
		}
	}
	return append(out, api.Record{Kind: 1}, api.Record{Kind: 2}, api.Record{Kind: 3})
}

// field: what a field may be but zero, and the kinds that have it.
type field struct {
	name  string
	kinds []int
	put   []func(r *api.Record)
}

func everyField() []field {
	type put = []func(r *api.Record)
	return []field{
		{"Name", []int{1}, put{func(r *api.Record) { r.Name = "a" }, func(r *api.Record) { r.Name = "\x00" }, func(r *api.Record) { r.Name = longestName }}},
		{"From", []int{1}, put{func(r *api.Record) { r.From = 1 }, func(r *api.Record) { r.From = -1 }, func(r *api.Record) { r.From = maxAmount }}},
		{"Guid", []int{1}, put{func(r *api.Record) { r.Guid = 1 }, func(r *api.Record) { r.Guid = -1 }, func(r *api.Record) { r.Guid = maxAmount }}},
		{"Own", []int{1}, put{func(r *api.Record) { r.Own = own("a=") }, func(r *api.Record) { r.Own = []api.Prop{{}} }, func(r *api.Record) { r.Own = fullOwn(8) }}},
		{"Index", []int{2, 3}, put{func(r *api.Record) { r.Index = 1 }, func(r *api.Record) { r.Index = -1 }, func(r *api.Record) { r.Index = 1023 }}},
		{"Data", []int{2}, put{func(r *api.Record) { r.Data = longestName }, func(r *api.Record) { r.Data = "\x00" }, func(r *api.Record) { r.Data = "a" }}},
		{"Count", []int{3}, put{func(r *api.Record) { r.Count = 1 }, func(r *api.Record) { r.Count = -1 }, func(r *api.Record) { r.Count = 1024 }}},
		{"Sum", []int{4}, put{
			func(r *api.Record) { r.Sum.A = 1 }, func(r *api.Record) { r.Sum.B = 1 }, func(r *api.Record) { r.Sum.C = 1 }, func(r *api.Record) { r.Sum.D = 1 << 63 },
		}},
	}
}

// mixed: records of the four kinds that may not be, for a field of another kind
// alone.
func mixed() []api.Record {
	var out []api.Record
	for _, f := range everyField() {
		for _, put := range f.put {
			for _, r := range append(ofEachKind(), api.Record{Kind: 1, Name: "a", Guid: 1}, api.Record{Kind: 2, Data: longestName}, api.Record{Kind: 3, Count: 1024}, api.Record{Kind: 4}) {
				if !slices.Contains(f.kinds, r.Kind) {
					out = append(out, onto(r, put))
				}
			}
		}
	}
	return out
}

// noKinds: no record is of one.
func noKinds() []int {
	return []int{0, 5, 6, 9, 127, 128, 255, 256, 257, 258, 259, 260, 1 << 32, 1<<32 + 1, 1<<62 + 1, math.MaxInt, -1, -2, -3, -4, -255, -256, math.MinInt, math.MinInt + 1, math.MinInt + 4}
}

// pick: one of them.
func pick[T any](r *rand.Rand, l []T) T {
	return l[r.Intn(len(l))]
}

// stock: names, rising, that snapshots and properties have.
var stock = []string{"-", "0", "a", "a-", "a0", "a_", "aa", "b", "b-c", longestName, "c", "monday", "old", "z"}

// someText: of octets from lowest to highest.
func someText(r *rand.Rand, n, lowest, highest int) string {
	out := make([]byte, n)
	for i := range out {
		out[i] = byte(lowest + r.Intn(highest-lowest+1))
	}
	return string(out)
}

// someOwn: properties that may be.
func someOwn(r *rand.Rand) []api.Prop {
	var out []api.Prop
	places := r.Perm(len(stock))[:r.Intn(maxProps+1)]
	slices.Sort(places)
	for _, i := range places {
		out = append(out, api.Prop{Name: stock[i], Value: someText(r, r.Intn(33), 32, 126)})
	}
	return out
}

// someRecord: one that may be, of any kind.
func someRecord(r *rand.Rand) api.Record {
	amount := func() int { return r.Intn(1<<r.Intn(41) + 1) }
	index := r.Intn(1 << r.Intn(11))
	switch r.Intn(4) {
	case 0:
		return api.Record{Kind: 1, Name: pick(r, stock), From: amount(), Guid: max(amount(), 1), Own: someOwn(r)}
	case 1:
		return api.Record{Kind: 2, Index: index, Data: someText(r, 16, 0, 255)}
	case 2:
		return api.Record{Kind: 3, Index: index, Count: 1 + r.Intn(maxIndex-index)}
	}
	return api.Record{Kind: 4, Sum: api.Sum{A: r.Uint64(), B: r.Uint64(), C: r.Uint64(), D: r.Uint64()}}
}
