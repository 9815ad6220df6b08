package count_test

import (
	"math"
	"math/big"
	"slices"
	"testing"

	"godown/api"
	"godown/count"
)

const top = 1 << 40 // the greatest amount, as the document writes it

// answer: what Add, Sub, Mul and Least tell.
type answer struct {
	n   int
	err api.Errno
}

func told(n int, err api.Errno) answer { return answer{n, err} }

// edgeNumbers: amounts and none, around each edge of either kind and around
// the powers of two, whose products meet the edges of amounts and of ints.
func edgeNumbers() []int {
	l := []int{math.MinInt, math.MinInt + 1, math.MaxInt, math.MaxInt - 1, 3, 5, 1000003}
	for bit := range 62 {
		p := 1 << bit
		l = append(l, p-1, p, p+1, -p)
	}
	return l
}

// strangers: numbers that are no amounts.
func strangers() []int {
	return []int{-1, -2, -top, top + 1, top + 2, 2 * top, math.MinInt, math.MinInt + 1, math.MaxInt}
}

func isAmount(n *big.Int) bool {
	return n.Sign() >= 0 && n.Cmp(big.NewInt(top)) <= 0
}

// exact: the answer of the document for a value of any size, worked out of
// the two arguments; bad is the error of a value that is no amount.
func exact(a, b int, value *big.Int, bad api.Errno) answer {
	if !isAmount(big.NewInt(int64(a))) || !isAmount(big.NewInt(int64(b))) {
		return answer{0, api.ErrRange}
	}
	if !isAmount(value) {
		return answer{0, bad}
	}
	return answer{int(value.Int64()), api.OK}
}

func TestMaxAmount(t *testing.T) {
	if api.MaxAmount != top {
		t.Fatalf("MaxAmount = %d, want 2^40", api.MaxAmount)
	}
}

// P2.1: Check

func TestCheck(t *testing.T) {
	for _, c := range []struct {
		l    []int
		want api.Errno
	}{
		{nil, api.OK}, {[]int{}, api.OK},
		{[]int{0}, api.OK}, {[]int{1}, api.OK}, {[]int{7, 7}, api.OK},
		{[]int{top - 1}, api.OK}, {[]int{top}, api.OK}, {[]int{top + 1}, api.ErrRange},
		{[]int{-1}, api.ErrRange}, {[]int{math.MinInt}, api.ErrRange}, {[]int{math.MaxInt}, api.ErrRange},
		{[]int{0, top, 0, top, top}, api.OK},
		{[]int{-1, top + 1}, api.ErrRange}, {[]int{top + 1, -top - 1}, api.ErrRange},
	} {
		if err := count.Check(c.l...); err != c.want {
			t.Errorf("Check(%v) = %d, want %d", c.l, err, c.want)
		}
	}
	if err := count.Check(); err != api.OK {
		t.Errorf("Check() = %d", err)
	}
}

func TestCheckEachNumber(t *testing.T) {
	for _, n := range edgeNumbers() {
		want := api.OK
		if !isAmount(big.NewInt(int64(n))) {
			want = api.ErrRange
		}
		if err := count.Check(n); err != want {
			t.Errorf("Check(%d) = %d, want %d", n, err, want)
		}
	}
}

// TestOneStrangerAtEachPlace: a number that is no amount is found wherever it
// stands, by each call that takes a list.
func TestOneStrangerAtEachPlace(t *testing.T) {
	for _, n := range strangers() {
		for place := range 5 {
			l := []int{4, 0, top, 1, 2}
			l[place] = n
			if err := count.Check(l...); err != api.ErrRange {
				t.Errorf("Check(%v) = %d", l, err)
			}
			if a := told(count.Add(l...)); a != (answer{0, api.ErrRange}) {
				t.Errorf("Add(%v) = %v", l, a)
			}
			if a := told(count.Least(l...)); a != (answer{0, api.ErrRange}) {
				t.Errorf("Least(%v) = %v", l, a)
			}
		}
	}
}

// P2.1: Add

func TestAdd(t *testing.T) {
	for _, c := range []struct {
		l    []int
		want answer
	}{
		{nil, answer{0, api.OK}}, {[]int{}, answer{0, api.OK}},
		{[]int{0}, answer{0, api.OK}}, {[]int{5}, answer{5, api.OK}}, {[]int{top}, answer{top, api.OK}},
		{[]int{1, 2, 3}, answer{6, api.OK}}, {[]int{3, 3, 3}, answer{9, api.OK}},
		{[]int{top, 0, 0}, answer{top, api.OK}}, {[]int{0, 0, top}, answer{top, api.OK}},
		{[]int{top - 1, 1}, answer{top, api.OK}}, {[]int{1, top - 1}, answer{top, api.OK}},
		{[]int{top / 2, top / 2}, answer{top, api.OK}},
		{[]int{top, 1}, answer{0, api.ErrOver}}, {[]int{1, top}, answer{0, api.ErrOver}},
		{[]int{top / 2, top/2 + 1}, answer{0, api.ErrOver}},
		{[]int{top - 1, 1, 1}, answer{0, api.ErrOver}},
		{[]int{top - 1, 1, 1, 0}, answer{0, api.ErrOver}},
		{[]int{top, top}, answer{0, api.ErrOver}},
		{[]int{top + 1}, answer{0, api.ErrRange}}, {[]int{-1}, answer{0, api.ErrRange}},
		{[]int{5, -1}, answer{0, api.ErrRange}}, {[]int{-1, 5}, answer{0, api.ErrRange}},
		{[]int{math.MaxInt, math.MinInt}, answer{0, api.ErrRange}},
		{[]int{math.MaxInt, 1}, answer{0, api.ErrRange}},
		{[]int{top + 1, -1}, answer{0, api.ErrRange}},
		{[]int{top, top, -1}, answer{0, api.ErrRange}}, // ErrRange ahead of ErrOver
		{[]int{top, 1, top + 1}, answer{0, api.ErrRange}},
		{[]int{top, 1, math.MinInt}, answer{0, api.ErrRange}},
	} {
		if a := told(count.Add(c.l...)); a != c.want {
			t.Errorf("Add(%v) = %v, want %v", c.l, a, c.want)
		}
	}
	if a := told(count.Add()); a != (answer{0, api.OK}) {
		t.Errorf("Add() = %v", a)
	}
}

func TestAddOfTwo(t *testing.T) {
	for _, a := range edgeNumbers() {
		for _, b := range edgeNumbers() {
			sum := new(big.Int).Add(big.NewInt(int64(a)), big.NewInt(int64(b)))
			want := exact(a, b, sum, api.ErrOver)
			if got := told(count.Add(a, b)); got != want {
				t.Errorf("Add(%d, %d) = %v, want %v", a, b, got, want)
			}
		}
	}
}

// TestAddOfMany: 2^24 times 2^40 is 2^64, which an int would hold as 0.
func TestAddOfMany(t *testing.T) {
	l := slices.Repeat([]int{top}, 1<<24)
	for _, many := range [][]int{l, l[:1<<23], l[:1<<23-1]} {
		if a := told(count.Add(many...)); a != (answer{0, api.ErrOver}) {
			t.Errorf("Add of %d times 2^40 = %v", len(many), a)
		}
	}
	l = slices.Repeat([]int{1 << 20}, 1<<20)
	if a := told(count.Add(l...)); a != (answer{top, api.OK}) {
		t.Errorf("Add of 2^20 times 2^20 = %v", a)
	}
	l = append(l, 1)
	if a := told(count.Add(l...)); a != (answer{0, api.ErrOver}) {
		t.Errorf("Add of 2^20 times 2^20, and 1 = %v", a)
	}
}

// P2.1: Sub

func TestSub(t *testing.T) {
	for _, c := range []struct {
		a, b int
		want answer
	}{
		{1, 2, answer{0, api.ErrUnder}},
		{2, 1, answer{1, api.OK}}, {7, 3, answer{4, api.OK}}, {7, 0, answer{7, api.OK}},
		{0, 0, answer{0, api.OK}}, {5, 5, answer{0, api.OK}}, {top, top, answer{0, api.OK}},
		{top, 0, answer{top, api.OK}}, {top, 1, answer{top - 1, api.OK}}, {top, top - 1, answer{1, api.OK}},
		{0, 1, answer{0, api.ErrUnder}}, {0, top, answer{0, api.ErrUnder}}, {top - 1, top, answer{0, api.ErrUnder}},
		{-1, 0, answer{0, api.ErrRange}}, {0, -1, answer{0, api.ErrRange}}, {-1, -1, answer{0, api.ErrRange}},
		{top + 1, 1, answer{0, api.ErrRange}}, {top + 1, top + 1, answer{0, api.ErrRange}},
		{-1, 1, answer{0, api.ErrRange}}, {0, top + 1, answer{0, api.ErrRange}}, // ErrRange ahead of ErrUnder
		{math.MinInt, 1, answer{0, api.ErrRange}}, {0, math.MinInt, answer{0, api.ErrRange}},
		{math.MaxInt, math.MinInt, answer{0, api.ErrRange}}, {math.MinInt, math.MaxInt, answer{0, api.ErrRange}},
	} {
		if a := told(count.Sub(c.a, c.b)); a != c.want {
			t.Errorf("Sub(%d, %d) = %v, want %v", c.a, c.b, a, c.want)
		}
	}
}

func TestSubOfEdges(t *testing.T) {
	for _, a := range edgeNumbers() {
		for _, b := range edgeNumbers() {
			left := new(big.Int).Sub(big.NewInt(int64(a)), big.NewInt(int64(b)))
			want := exact(a, b, left, api.ErrUnder)
			if got := told(count.Sub(a, b)); got != want {
				t.Errorf("Sub(%d, %d) = %v, want %v", a, b, got, want)
			}
		}
	}
}

// P2.1: Mul

func TestMul(t *testing.T) {
	for _, c := range []struct {
		a, b int
		want answer
	}{
		{6, 7, answer{42, api.OK}}, {0, 0, answer{0, api.OK}}, {1, 1, answer{1, api.OK}},
		{0, top, answer{0, api.OK}}, {top, 0, answer{0, api.OK}}, {1, top, answer{top, api.OK}}, {top, 1, answer{top, api.OK}},
		{1 << 20, 1 << 20, answer{top, api.OK}}, {2, top / 2, answer{top, api.OK}}, {top / 2, 2, answer{top, api.OK}},
		{1<<20 + 1, 1<<20 - 1, answer{top - 1, api.OK}},
		{257, 4278255361, answer{0, api.ErrOver}}, {4278255361, 257, answer{0, api.ErrOver}}, // 2^40 + 1
		{3, top / 3, answer{top - 1, api.OK}}, {3, top/3 + 1, answer{0, api.ErrOver}},
		{1 << 20, 1<<20 + 1, answer{0, api.ErrOver}}, {2, top/2 + 1, answer{0, api.ErrOver}},
		{2, top, answer{0, api.ErrOver}}, {top, 2, answer{0, api.ErrOver}},
		{1 << 31, 1 << 32, answer{0, api.ErrOver}}, // 2^63: the first that no int holds
		{1 << 32, 1 << 32, answer{0, api.ErrOver}}, // 2^64: an int would hold 0
		{1 << 39, 1<<25 + 1, answer{0, api.ErrOver}},
		{top, 1 << 24, answer{0, api.ErrOver}}, {top, top, answer{0, api.ErrOver}}, {top - 1, top, answer{0, api.ErrOver}},
		{-1, 1, answer{0, api.ErrRange}}, {1, -1, answer{0, api.ErrRange}}, {-1, -1, answer{0, api.ErrRange}},
		{0, -1, answer{0, api.ErrRange}}, {-1, 0, answer{0, api.ErrRange}},
		{0, top + 1, answer{0, api.ErrRange}}, {top + 1, 0, answer{0, api.ErrRange}},
		{top + 1, top, answer{0, api.ErrRange}}, {2, top + 1, answer{0, api.ErrRange}}, // ErrRange ahead of ErrOver
		{math.MinInt, -1, answer{0, api.ErrRange}}, {-1, math.MinInt, answer{0, api.ErrRange}},
		{math.MaxInt, math.MaxInt, answer{0, api.ErrRange}}, {0, math.MinInt, answer{0, api.ErrRange}},
	} {
		if a := told(count.Mul(c.a, c.b)); a != c.want {
			t.Errorf("Mul(%d, %d) = %v, want %v", c.a, c.b, a, c.want)
		}
	}
}

func TestMulOfEdges(t *testing.T) {
	for _, a := range edgeNumbers() {
		for _, b := range edgeNumbers() {
			product := new(big.Int).Mul(big.NewInt(int64(a)), big.NewInt(int64(b)))
			want := exact(a, b, product, api.ErrOver)
			if got := told(count.Mul(a, b)); got != want {
				t.Errorf("Mul(%d, %d) = %v, want %v", a, b, got, want)
			}
		}
	}
}

// TestMulAtTheEdge: for each factor the greatest other one that is taken, and
// the one above it.
func TestMulAtTheEdge(t *testing.T) {
	for a := 1; a <= 3000; a++ {
		b := top / a
		if got := told(count.Mul(a, b)); got != (answer{a * b, api.OK}) {
			t.Errorf("Mul(%d, %d) = %v, want %d", a, b, got, a*b)
		}
		want := api.ErrOver
		if a == 1 {
			want = api.ErrRange
		}
		if got := told(count.Mul(a, b+1)); got != (answer{0, want}) {
			t.Errorf("Mul(%d, %d) = %v, want %d", a, b+1, got, want)
		}
	}
}

// P2.1: Least

func TestLeast(t *testing.T) {
	for _, c := range []struct {
		l    []int
		want answer
	}{
		{nil, answer{0, api.ErrCount}}, {[]int{}, answer{0, api.ErrCount}},
		{[]int{0}, answer{0, api.OK}}, {[]int{9}, answer{9, api.OK}}, {[]int{top}, answer{top, api.OK}},
		{[]int{3, 1, 2}, answer{1, api.OK}}, {[]int{1, 2, 3}, answer{1, api.OK}}, {[]int{3, 2, 1}, answer{1, api.OK}},
		{[]int{2, 2, 2}, answer{2, api.OK}}, {[]int{top, top - 1, top}, answer{top - 1, api.OK}},
		{[]int{top, 0, top}, answer{0, api.OK}}, {[]int{top, top}, answer{top, api.OK}},
		{[]int{-1}, answer{0, api.ErrRange}}, {[]int{top + 1}, answer{0, api.ErrRange}},
		{[]int{0, top + 1}, answer{0, api.ErrRange}}, {[]int{top + 1, 0}, answer{0, api.ErrRange}},
		{[]int{0, -1}, answer{0, api.ErrRange}}, {[]int{-1, 0}, answer{0, api.ErrRange}},
		{[]int{1, math.MinInt}, answer{0, api.ErrRange}}, {[]int{1, math.MaxInt}, answer{0, api.ErrRange}},
	} {
		if a := told(count.Least(c.l...)); a != c.want {
			t.Errorf("Least(%v) = %v, want %v", c.l, a, c.want)
		}
	}
	if a := told(count.Least()); a != (answer{0, api.ErrCount}) {
		t.Errorf("Least() = %v", a)
	}
}

// TestLeastAtEachPlace: the least is found wherever it stands.
func TestLeastAtEachPlace(t *testing.T) {
	for place := range 6 {
		l := []int{30, 50, 20, top, 40, 20}
		l[place] = 10
		if a := told(count.Least(l...)); a != (answer{10, api.OK}) {
			t.Errorf("Least(%v) = %v, want 10", l, a)
		}
	}
}

// P2.2

// listCalls: the calls that take a list, as what they tell of it.
func listCalls() map[string]func(l []int) answer {
	return map[string]func(l []int) answer{
		"Check": func(l []int) answer { return answer{0, count.Check(l...)} },
		"Add":   func(l []int) answer { return told(count.Add(l...)) },
		"Least": func(l []int) answer { return told(count.Least(l...)) },
	}
}

// TestWhatIsHandedInStays: the list, and the room behind it, so that a sort,
// a running sum or an append in place shows.
func TestWhatIsHandedInStays(t *testing.T) {
	for name, call := range listCalls() {
		for _, l := range [][]int{
			{}, {5}, {5, 3, 9, 3, 1}, {top, 1, 0}, {top, top}, {4, -1, 2}, {top + 1, 7},
		} {
			whole := append(slices.Clone(l), 77, -77, math.MaxInt, 0)
			before := slices.Clone(whole)
			call(whole[:len(l)])
			if !slices.Equal(whole, before) {
				t.Errorf("%s changed what it was handed: %v, was %v", name, whole, before)
			}
		}
	}
}

// TestWhatIsHandedInIsNotKept: a call goes by its list as it is now, whatever
// it was when it was handed in before, and whatever was asked between.
func TestWhatIsHandedInIsNotKept(t *testing.T) {
	want := map[string][3]answer{
		"Check": {{0, api.OK}, {0, api.ErrRange}, {0, api.OK}},
		"Add":   {{17, api.OK}, {0, api.ErrRange}, {0, api.ErrOver}},
		"Least": {{3, api.OK}, {0, api.ErrRange}, {2, api.OK}},
	}
	for name, call := range listCalls() {
		l := []int{5, 3, 9}
		for round, next := range [][]int{{5, 3, 9}, {5, -3, 9}, {top, 2, 9}} {
			copy(l, next)
			for range 2 {
				if a := call(l); a != want[name][round] {
					t.Errorf("%s(%v) = %v, want %v", name, l, a, want[name][round])
				}
				call([]int{1, top + 1})
				call(nil)
			}
		}
	}
}
