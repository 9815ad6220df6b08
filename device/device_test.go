package device_test

import (
	"bytes"
	"math"
	"math/rand"
	"reflect"
	"slices"
	"testing"

	"godown/api"
	"godown/device"
)

const (
	size       = 64
	maxSectors = 1 << 13
)

// data: octets of a write, told apart by n, no two places alike.
func data(n int) []byte {
	out := make([]byte, size)
	for i := range out {
		out[i] = byte(n*31 + i*7 + 1)
	}
	return out
}

func write(at, n int) api.Act {
	return api.Act{At: at, Data: data(n)}
}

var flush = api.Act{Flush: true}

// made: a device by hand, each sector told apart, and nothing that waits.
func made(n int) api.Device {
	d := api.Device{Sectors: make([][]byte, n)}
	for i := range d.Sectors {
		d.Sectors[i] = data(1000 + i)
	}
	return d
}

// waits: writes by hand that wait, one of each sector of the list.
func waits(d api.Device, sectors ...int) api.Device {
	for i, at := range sectors {
		d.Waits = append(d.Waits, api.Write{At: at, Data: data(i)})
	}
	return d
}

// twin: a copy that shares nothing.
func twin(d api.Device) api.Device {
	var out api.Device
	for _, s := range d.Sectors {
		out.Sectors = append(out.Sectors, append([]byte{}, s...))
	}
	for _, w := range d.Waits {
		out.Waits = append(out.Waits, api.Write{At: w.At, Data: append([]byte{}, w.Data...)})
	}
	return out
}

// same: nil and empty lists are one.
func same(a, b api.Device) bool {
	return slices.EqualFunc(a.Sectors, b.Sectors, bytes.Equal) && slices.EqualFunc(a.Waits, b.Waits, sameWrite)
}

func sameWrite(a, b api.Write) bool {
	return a.At == b.At && bytes.Equal(a.Data, b.Data)
}

func sameActs(a, b []api.Act) bool {
	return slices.EqualFunc(a, b, func(x, y api.Act) bool {
		return x.Flush == y.Flush && x.At == y.At && bytes.Equal(x.Data, y.Data)
	})
}

func isZero(d api.Device) bool {
	return len(d.Sectors) == 0 && len(d.Waits) == 0
}

// mayNotBe: devices that no call takes.
func mayNotBe() map[string]api.Device {
	sector := func(at, octets int) api.Device {
		d := made(4)
		d.Sectors[at] = make([]byte, octets)
		return d
	}
	write := func(at, octets int) api.Device {
		d := waits(made(4), 1, 2)
		d.Waits = append(d.Waits, api.Write{At: at, Data: make([]byte, octets)}, api.Write{At: 0, Data: data(9)})
		return d
	}
	nilSector := made(3)
	nilSector.Sectors[1] = nil
	return map[string]api.Device{
		"nothing":                        {},
		"empty lists":                    {Sectors: [][]byte{}, Waits: []api.Write{}},
		"writes alone":                   waits(api.Device{}, 0),
		"1 sector":                       made(1),
		"1 sector and a write of it":     waits(made(1), 0),
		"2^13 + 1 sectors":               made(maxSectors + 1),
		"2^14 sectors":                   made(2 * maxSectors),
		"nil sector":                     nilSector,
		"first sector of 0 octets":       sector(0, 0),
		"first sector of 63 octets":      sector(0, size-1),
		"first sector of 65 octets":      sector(0, size+1),
		"last sector of 63 octets":       sector(3, size-1),
		"last sector of 65 octets":       sector(3, size+1),
		"sector of 128 octets":           sector(2, 2*size),
		"write of sector -1":             write(-1, size),
		"write of the lowest number":     write(math.MinInt, size),
		"write behind the last sector":   write(4, size),
		"write of the highest number":    write(math.MaxInt, size),
		"write of sector 2^32":           write(1<<32, size),
		"write of 0 octets":              write(3, 0),
		"write of 63 octets":             write(3, size-1),
		"write of 65 octets":             write(3, size+1),
		"write of no sector, 65 octets":  write(4, size+1),
		"write behind the last of 2":     waits(made(2), 2),
		"first write wrong, others good": waits(made(3), 3, 0, 1),
		"last write wrong, others good":  waits(made(3), 0, 1, 3),
	}
}

// mayBe: devices at the edges that calls take.
func mayBe() map[string]api.Device {
	twice := made(3)
	twice.Sectors[2] = twice.Sectors[0] // one memory in two places
	twice.Waits = []api.Write{{At: 1, Data: twice.Sectors[0]}, {At: 2, Data: twice.Sectors[1]}}
	many := made(5)
	for i := range 300 {
		many.Waits = append(many.Waits, api.Write{At: i % 4, Data: data(i)})
	}
	return map[string]api.Device{
		"2 sectors":                made(2),
		"2 sectors, empty list":    {Sectors: made(2).Sectors, Waits: []api.Write{}},
		"2 sectors, both wait":     waits(made(2), 0, 1),
		"first sector waits":       waits(made(7), 0),
		"last sector waits":        waits(made(7), 6),
		"one sector, many times":   waits(made(3), 1, 1, 1, 1),
		"several, mixed":           waits(made(4), 3, 0, 3, 2, 0, 3),
		"one memory in two places": twice,
		"many writes":              many,
		"2^13 sectors":             made(maxSectors),
		"2^13 sectors, last waits": waits(made(maxSectors), maxSectors-1, 0),
	}
}

// wantSector: of a sector the last of what was done last and of the writes
// behind it that are kept, told from the list of all acts alone, from its end.
func wantSector(stood []byte, acts []api.Act, at int, keep func(place int) bool) []byte {
	last := len(acts) - 1
	for last >= 0 && !acts[last].Flush {
		last--
	}
	for i := len(acts) - 1; i >= 0; i-- {
		if !acts[i].Flush && acts[i].At == at && (i < last || keep(i-last-1)) {
			return acts[i].Data
		}
	}
	return stood
}

// asActs: a device's writes that wait, as the acts that left them.
func asActs(d api.Device) []api.Act {
	var out []api.Act
	for _, w := range d.Waits {
		out = append(out, api.Act{At: w.At, Data: w.Data})
	}
	return out
}

// wantWaits: the writes behind the last flush.
func wantWaits(acts []api.Act) []api.Write {
	var out []api.Write
	for i := len(acts) - 1; i >= 0 && !acts[i].Flush; i-- {
		out = append(out, api.Write{At: acts[i].At, Data: acts[i].Data})
	}
	slices.Reverse(out)
	return out
}

func all(int) bool  { return true }
func none(int) bool { return false }

func fromList(keep []bool) func(int) bool {
	return func(place int) bool { return place < len(keep) && keep[place] }
}

// wantDo: d behind acts.
func wantDo(d api.Device, acts []api.Act) api.Device {
	whole := append(asActs(d), acts...)
	out := twin(d)
	for at := range out.Sectors {
		out.Sectors[at] = wantSector(out.Sectors[at], whole, at, none)
	}
	out.Waits = wantWaits(whole)
	return out
}

// wantCrash: d behind a crash.
func wantCrash(d api.Device, keep func(int) bool) api.Device {
	var out api.Device
	for at, s := range d.Sectors {
		out.Sectors = append(out.Sectors, wantSector(s, asActs(d), at, keep))
	}
	return out
}

func mustDo(t *testing.T, d api.Device, acts ...api.Act) api.Device {
	t.Helper()
	got, err := device.Do(d, acts...)
	if err != api.OK {
		t.Fatalf("Do of %d acts = error %d", len(acts), err)
	}
	if want := wantDo(d, acts); !same(got, want) {
		t.Fatalf("Do of %d acts on %d sectors, %d waiting: not the device that is asked for", len(acts), len(d.Sectors), len(d.Waits))
	}
	if err := device.Check(got); err != api.OK {
		t.Fatalf("Check behind Do = %d", err)
	}
	return got
}

func mustCrash(t *testing.T, d api.Device, keep []bool) api.Device {
	t.Helper()
	got, err := device.Crash(d, keep)
	if err != api.OK {
		t.Fatalf("Crash(%v) = error %d", keep, err)
	}
	if want := wantCrash(d, fromList(keep)); !same(got, want) {
		t.Fatalf("Crash(%v) with %d waiting: not the device that is asked for", keep, len(d.Waits))
	}
	if err := device.Check(got); err != api.OK {
		t.Fatalf("Check behind Crash = %d", err)
	}
	return got
}

// mustRead: each sector, by Read, is what is asked for.
func mustRead(t *testing.T, d api.Device) {
	t.Helper()
	acts := asActs(d)
	for at := range d.Sectors {
		got, err := device.Read(d, at)
		if want := wantSector(d.Sectors[at], acts, at, all); err != api.OK || !bytes.Equal(got, want) {
			t.Fatalf("Read(%d) = %x, %d, want %x", at, got, err, want)
		}
		if len(d.Sectors) > 100 && at == 40 { // the front and the end tell enough
			break
		}
	}
	last := len(d.Sectors) - 1
	if got, err := device.Read(d, last); err != api.OK || !bytes.Equal(got, wantSector(d.Sectors[last], acts, last, all)) {
		t.Fatalf("Read(%d) = %x, %d", last, got, err)
	}
}

// randomActs: always the same ones for one source.
func randomActs(r *rand.Rand, sectors int) []api.Act {
	acts := make([]api.Act, r.Intn(12))
	for i := range acts {
		if r.Intn(4) == 0 {
			acts[i] = flush
		} else {
			acts[i] = write(r.Intn(sectors), r.Intn(256))
		}
	}
	return acts
}

func randomKeep(r *rand.Rand, n int) []bool {
	keep := make([]bool, r.Intn(n+3))
	for i := range keep {
		keep[i] = r.Intn(2) == 0
	}
	return keep
}

// P6.1

func TestNew(t *testing.T) {
	for _, n := range []int{2, 3, 63, 64, 65, 255, 256, maxSectors - 1, maxSectors} {
		d, err := device.New(n)
		if err != api.OK || len(d.Sectors) != n || len(d.Waits) != 0 {
			t.Fatalf("New(%d) = %d sectors, %d waiting, %d", n, len(d.Sectors), len(d.Waits), err)
		}
		for at, s := range d.Sectors {
			if !bytes.Equal(s, make([]byte, size)) {
				t.Fatalf("New(%d): sector %d is %x", n, at, s)
			}
		}
		if err := device.Check(d); err != api.OK {
			t.Errorf("Check(New(%d)) = %d", n, err)
		}
	}
}

func TestNewOutOfRange(t *testing.T) {
	for _, n := range []int{math.MinInt, -1 << 32, -2, -1, 0, 1, maxSectors + 1, 2 * maxSectors, 1<<32 + 2, math.MaxInt} {
		if d, err := device.New(n); err != api.ErrRange || !isZero(d) {
			t.Errorf("New(%d) = %d sectors, %d, want ErrRange alone", n, len(d.Sectors), err)
		}
	}
}

func TestCheck(t *testing.T) {
	for name, d := range mayBe() {
		if err := device.Check(d); err != api.OK {
			t.Errorf("Check(%s) = %d", name, err)
		}
	}
	for name, d := range mayNotBe() {
		if err := device.Check(d); err != api.ErrState {
			t.Errorf("Check(%s) = %d, want ErrState", name, err)
		}
	}
}

func TestCheckOfEachPlace(t *testing.T) {
	for place := range 6 {
		d := waits(made(6), 0, 5, 2, 2, 1, 3)
		d.Sectors[place] = d.Sectors[place][:size-1]
		if err := device.Check(d); err != api.ErrState {
			t.Errorf("Check with a short sector %d = %d", place, err)
		}
		d = waits(made(6), 0, 5, 2, 2, 1, 3)
		d.Waits[place].Data = append(d.Waits[place].Data, 0)
		if err := device.Check(d); err != api.ErrState {
			t.Errorf("Check with a long write %d = %d", place, err)
		}
		d = waits(made(6), 0, 5, 2, 2, 1, 3)
		d.Waits[place].At = 6
		if err := device.Check(d); err != api.ErrState {
			t.Errorf("Check with write %d of no sector = %d", place, err)
		}
	}
}

// TestStateComesFirst: of a device that may not be all else is wrong too.
func TestStateComesFirst(t *testing.T) {
	for name, d := range mayNotBe() {
		for _, at := range []int{-1, 0, 1, len(d.Sectors), math.MaxInt} {
			if b, err := device.Read(d, at); err != api.ErrState || len(b) != 0 {
				t.Errorf("Read(%s, %d) = %x, %d, want ErrState alone", name, at, b, err)
			}
		}
		for _, acts := range [][]api.Act{nil, {}, {flush}, {write(0, 1)}, {write(-1, 1)}, {{At: 0}}, {{At: math.MaxInt}}} {
			if out, err := device.Do(d, acts...); err != api.ErrState || !isZero(out) {
				t.Errorf("Do(%s) of %d acts = error %d, want ErrState alone", name, len(acts), err)
			}
		}
		for _, keep := range [][]bool{nil, {}, {false}, {true, true, true, true, true}} {
			if out, err := device.Crash(d, keep); err != api.ErrState || !isZero(out) {
				t.Errorf("Crash(%s, %v) = error %d, want ErrState alone", name, keep, err)
			}
		}
	}
}

func TestRead(t *testing.T) {
	for name, d := range mayBe() {
		t.Run(name, func(t *testing.T) { mustRead(t, d) })
	}
}

func TestReadOfNoSector(t *testing.T) {
	for name, d := range mayBe() {
		n := len(d.Sectors)
		for _, at := range []int{math.MinInt, -1 << 32, -n, -1, n, n + 1, 1 << 32, math.MaxInt} {
			if b, err := device.Read(d, at); err != api.ErrRange || len(b) != 0 {
				t.Errorf("Read(%s, %d) = %x, %d, want ErrRange alone", name, at, b, err)
			}
		}
	}
}

func TestReadTellsTheLastWrite(t *testing.T) {
	d := waits(made(3), 1, 0, 1, 0, 0)
	for at, want := range [][]byte{data(4), data(2), data(1002)} {
		if got, err := device.Read(d, at); err != api.OK || !bytes.Equal(got, want) {
			t.Errorf("Read(%d) = %x, %d, want %x", at, got, err, want)
		}
	}
}

func TestDo(t *testing.T) {
	for name, d := range mayBe() {
		last := len(d.Sectors) - 1
		lists := [][]api.Act{
			nil,
			{},
			{flush},
			{flush, flush},
			{write(0, 50)},
			{write(last, 51)},
			{write(0, 50), flush},
			{flush, write(0, 50)},
			{write(1, 50), write(1, 51), write(1, 52)},
			{write(1, 50), write(1, 51), flush, write(1, 52), write(1, 53)},
			{write(1, 50), flush, write(1, 51), flush, write(0, 52), write(1, 53), flush},
			{write(last, 50), write(0, 51), write(last, 52), flush, flush, write(0, 53)},
		}
		for i, l := range lists {
			if len(d.Sectors) > 100 && i%3 != 0 { // the great ones take long
				continue
			}
			mustRead(t, mustDo(t, d, l...))
		}
		if t.Failed() {
			t.Fatalf("on device %q", name)
		}
	}
}

// TestDoByHand: told without the reference.
func TestDoByHand(t *testing.T) {
	d, err := device.Do(made(3), write(1, 1), write(1, 2), flush, write(2, 3), write(1, 4))
	want := made(3)
	want.Sectors[1] = data(2)
	want.Waits = []api.Write{{At: 2, Data: data(3)}, {At: 1, Data: data(4)}}
	if err != api.OK || !same(d, want) {
		t.Fatalf("Do = %v, %d", d, err)
	}
	d, err = device.Do(d, write(0, 5))
	want.Waits = append(want.Waits, api.Write{At: 0, Data: data(5)})
	if err != api.OK || !same(d, want) {
		t.Fatalf("Do behind what waits = %v, %d", d, err)
	}
	d, err = device.Do(d, flush)
	want = api.Device{Sectors: [][]byte{data(5), data(4), data(3)}}
	if err != api.OK || !same(d, want) {
		t.Fatalf("flush = %v, %d", d, err)
	}
}

func TestDoOfErrors(t *testing.T) {
	long := func(at, octets int) api.Act { return api.Act{At: at, Data: make([]byte, octets)} }
	cases := []struct {
		acts []api.Act
		want api.Errno
	}{
		{[]api.Act{write(-1, 1)}, api.ErrRange},
		{[]api.Act{write(3, 1)}, api.ErrRange},
		{[]api.Act{write(math.MinInt, 1)}, api.ErrRange},
		{[]api.Act{write(math.MaxInt, 1)}, api.ErrRange},
		{[]api.Act{write(1<<32, 1)}, api.ErrRange},
		{[]api.Act{{}}, api.ErrLong},
		{[]api.Act{long(0, 0)}, api.ErrLong},
		{[]api.Act{long(0, 1)}, api.ErrLong},
		{[]api.Act{long(2, size-1)}, api.ErrLong},
		{[]api.Act{long(2, size+1)}, api.ErrLong},
		{[]api.Act{long(2, 2*size)}, api.ErrLong},
		{[]api.Act{long(3, size+1)}, api.ErrRange},
		{[]api.Act{long(-1, 0)}, api.ErrRange},
		{[]api.Act{long(0, 3), write(3, 1)}, api.ErrLong},
		{[]api.Act{write(3, 1), long(0, 3)}, api.ErrRange},
		{[]api.Act{write(0, 1), long(0, 3), write(-1, 1)}, api.ErrLong},
		{[]api.Act{write(0, 1), write(2, 1), write(3, 1), long(0, 3)}, api.ErrRange},
		{[]api.Act{write(0, 1), flush, long(1, 65)}, api.ErrLong},
		{[]api.Act{flush, flush, write(3, 1), flush}, api.ErrRange},
	}
	for i, c := range cases {
		for _, d := range []api.Device{made(3), waits(made(3), 0, 2, 2)} {
			ahead := twin(d)
			if out, err := device.Do(d, c.acts...); err != c.want || !isZero(out) {
				t.Errorf("case %d: Do = %v, %d, want %d alone", i, out, err, c.want)
			}
			if !same(d, ahead) {
				t.Errorf("case %d: something was done beside an error", i)
			}
		}
	}
}

// TestFlushHasNoData: what stands in a flush's other fields says nothing.
func TestFlushHasNoData(t *testing.T) {
	d := waits(made(3), 0, 2, 2)
	want, _ := device.Do(d, flush)
	for _, a := range []api.Act{
		{Flush: true, At: 1, Data: data(1)},
		{Flush: true, At: -1, Data: data(1)},
		{Flush: true, At: 3},
		{Flush: true, At: math.MaxInt, Data: make([]byte, 65)},
		{Flush: true, Data: []byte{1}},
	} {
		if got, err := device.Do(d, a); err != api.OK || !same(got, want) {
			t.Errorf("a flush at %d with %d octets = error %d, or other sectors", a.At, len(a.Data), err)
		}
	}
}

func TestDoOneByOne(t *testing.T) {
	r := rand.New(rand.NewSource(61))
	for range 200 {
		n := 2 + r.Intn(4)
		acts := randomActs(r, n)
		start := waits(made(n), r.Perm(n)[:r.Intn(n)]...)
		step := start
		for _, a := range acts {
			step = mustDo(t, step, a)
		}
		if whole := mustDo(t, start, acts...); !same(whole, step) {
			t.Fatal("acts together are not the acts one by one")
		}
	}
}

func TestManyFlushesEnd(t *testing.T) {
	acts := slices.Repeat([]api.Act{write(1, 1), flush}, 1<<15)
	mustDo(t, made(2), acts...)
}

// P6.2

func TestCrashOfTheChapter(t *testing.T) {
	d, _ := device.New(3)
	d, _ = device.Do(d, write(1, 1))
	d, err := device.Crash(d, nil)
	if err != api.OK || len(d.Waits) != 0 {
		t.Fatalf("Crash = %d, %d waiting", err, len(d.Waits))
	}
	for at := range 3 {
		if b, err := device.Read(d, at); err != api.OK || !bytes.Equal(b, make([]byte, size)) {
			t.Errorf("Read(%d) = %x, %d, want zeros", at, b, err)
		}
	}
}

// TestCrashOfEachKeep: each list up to two longer than what waits.
func TestCrashOfEachKeep(t *testing.T) {
	for _, d := range []api.Device{
		made(3), waits(made(2), 1), waits(made(3), 1, 1), waits(made(3), 0, 2, 0, 2),
		waits(made(4), 2, 2, 2, 3, 2),
	} {
		for length := range len(d.Waits) + 3 {
			for bits := range 1 << length {
				keep := make([]bool, length)
				for i := range keep {
					keep[i] = bits>>i&1 == 1
				}
				mustRead(t, mustCrash(t, d, keep))
			}
		}
	}
}

// TestCrashByHand: told without the reference.
func TestCrashByHand(t *testing.T) {
	d := waits(made(4), 1, 2, 1, 1)
	stood := made(4).Sectors
	cases := []struct {
		keep []bool
		one  []byte
		two  []byte
	}{
		{nil, stood[1], stood[2]},
		{[]bool{}, stood[1], stood[2]},
		{[]bool{false, false, false, false, true}, stood[1], stood[2]},
		{[]bool{true}, data(0), stood[2]},
		{[]bool{true, true}, data(0), data(1)},
		{[]bool{false, true, true}, data(2), data(1)},
		{[]bool{true, false, true, false}, data(2), stood[2]},
		{[]bool{true, true, true, true}, data(3), data(1)},
		{[]bool{false, false, false, true, true, true}, data(3), stood[2]},
	}
	for _, c := range cases {
		got, err := device.Crash(d, c.keep)
		want := api.Device{Sectors: [][]byte{stood[0], c.one, c.two, stood[3]}}
		if err != api.OK || !same(got, want) {
			t.Errorf("Crash(%v) = %v, %d", c.keep, got, err)
		}
	}
}

func TestCrashOfEachDevice(t *testing.T) {
	r := rand.New(rand.NewSource(62))
	for _, d := range mayBe() {
		keeps := [][]bool{nil, {}, {true}, {false, true}, slices.Repeat([]bool{true}, len(d.Waits)), slices.Repeat([]bool{true}, len(d.Waits)+5), randomKeep(r, len(d.Waits))}
		for _, keep := range keeps {
			mustCrash(t, d, keep)
		}
	}
}

// TestCrashThatKeepsAll: is a flush; one that keeps nothing is none.
func TestCrashThatKeepsAll(t *testing.T) {
	for name, d := range mayBe() {
		kept, _ := device.Crash(d, slices.Repeat([]bool{true}, len(d.Waits)))
		flushed, _ := device.Do(d, flush)
		lost, _ := device.Crash(d, nil)
		if !same(kept, flushed) {
			t.Errorf("%s: a crash that keeps all is no flush", name)
		}
		if !same(lost, api.Device{Sectors: d.Sectors}) {
			t.Errorf("%s: a crash that keeps nothing keeps something", name)
		}
	}
}

// TestHistories: acts and crashes by turns; each sector is what was flushed
// last, or the last of what was written behind that and kept.
func TestHistories(t *testing.T) {
	r := rand.New(rand.NewSource(63))
	for range 150 {
		n := 2 + r.Intn(5)
		d, _ := device.New(n)
		for range 6 {
			d = mustDo(t, d, randomActs(r, n)...)
			mustRead(t, d)
			if r.Intn(2) == 0 {
				d = mustCrash(t, d, randomKeep(r, len(d.Waits)))
			}
		}
	}
}

// P6.3

func TestBehindAFlushACrashChangesNothing(t *testing.T) {
	r := rand.New(rand.NewSource(64))
	for i := range 300 {
		n := 2 + r.Intn(5)
		d, _ := device.Do(waits(made(n), r.Perm(n)...), append(randomActs(r, n), flush)...)
		for _, keep := range [][]bool{nil, {}, {true}, {false}, {true, true, true, true}, randomKeep(r, 20)} {
			got, err := device.Crash(d, keep)
			if err != api.OK || !same(got, d) {
				t.Fatalf("run %d: Crash(%v) behind a flush = error %d, or another device", i, keep, err)
			}
		}
	}
	for name, d := range mayBe() {
		d, _ = device.Do(d, flush)
		if got, err := device.Crash(d, []bool{true, false, true}); err != api.OK || !same(got, d) {
			t.Errorf("%s: Crash behind a flush = error %d, or another device", name, err)
		}
	}
}

func TestACrashBehindACrashChangesNothing(t *testing.T) {
	d, _ := device.Crash(waits(made(3), 0, 1, 0), []bool{true})
	for _, keep := range [][]bool{nil, {true, true, true}} {
		if got, err := device.Crash(d, keep); err != api.OK || !same(got, d) {
			t.Errorf("Crash(%v) behind a crash = error %d, or another device", keep, err)
		}
	}
}

// P6.4

// room: a copy of a list with room behind it, filled, so that an append in
// place shows.
func room[T any](l []T, with T) []T {
	whole := append(slices.Clone(l), slices.Repeat([]T{with}, 40)...)
	return whole[:len(l)]
}

// roomy: a copy of a device whose lists all have room behind them.
func roomy(d api.Device) api.Device {
	d = twin(d)
	for i, s := range d.Sectors {
		d.Sectors[i] = room(s, 0xAA)
	}
	for i, w := range d.Waits {
		d.Waits[i].Data = room(w.Data, 0xBB)
	}
	return api.Device{Sectors: room(d.Sectors, []byte("behind")), Waits: room(d.Waits, api.Write{At: 77})}
}

// widen: a device with each list as long as its memory is.
func widen(d api.Device) api.Device {
	out := api.Device{Sectors: slices.Clone(d.Sectors[:cap(d.Sectors)]), Waits: slices.Clone(d.Waits[:cap(d.Waits)])}
	for i, s := range out.Sectors {
		out.Sectors[i] = s[:cap(s)]
	}
	for i, w := range out.Waits {
		out.Waits[i].Data = w.Data[:cap(w.Data)]
	}
	return out
}

// spoil: writes over all memory of a device, behind its ends too.
func spoil(d api.Device) {
	wide := widen(d)
	for _, s := range wide.Sectors {
		spoilOctets(s)
	}
	for _, w := range wide.Waits {
		spoilOctets(w.Data)
	}
	for i := range d.Sectors[:cap(d.Sectors)] {
		d.Sectors[:cap(d.Sectors)][i] = []byte("spoilt")
	}
	for i := range d.Waits[:cap(d.Waits)] {
		d.Waits[:cap(d.Waits)][i] = api.Write{At: -7, Data: []byte("spoilt")}
	}
}

func spoilOctets(b []byte) {
	b = b[:cap(b)]
	for i := range b {
		b[i] ^= 0x5C
	}
}

// calls: each call that answers a device, by name; the acts are the caller's.
func calls(acts []api.Act, keep []bool) map[string]func(api.Device) (api.Device, api.Errno) {
	return map[string]func(api.Device) (api.Device, api.Errno){
		"Do of nothing": func(d api.Device) (api.Device, api.Errno) { return device.Do(d) },
		"Do":            func(d api.Device) (api.Device, api.Errno) { return device.Do(d, acts...) },
		"Crash":         func(d api.Device) (api.Device, api.Errno) { return device.Crash(d, keep) },
		"Crash of none": func(d api.Device) (api.Device, api.Errno) { return device.Crash(d, nil) },
	}
}

func actsForMemory() [][]api.Act {
	return [][]api.Act{
		{write(0, 60)}, {write(0, 60), write(0, 61)}, {write(1, 60), flush}, {flush},
		{flush, write(1, 60), write(0, 61)}, {write(1, 60), flush, write(1, 61)},
	}
}

func TestArgumentsStay(t *testing.T) {
	for name, d := range mayBe() {
		if len(d.Sectors) > 100 {
			continue
		}
		for i, list := range actsForMemory() {
			whole := append(slices.Clone(list), slices.Repeat([]api.Act{{At: 99, Data: []byte("room")}}, 5)...)
			acts := whole[:len(list)]
			aheadActs := make([]api.Act, len(whole))
			for i, a := range whole {
				aheadActs[i] = api.Act{Flush: a.Flush, At: a.At, Data: slices.Clone(a.Data)}
			}
			wholeKeep := []bool{true, false, true, true, false, true}
			for call, do := range calls(acts, wholeKeep[:3]) {
				given := roomy(d)
				ahead := twin(widen(given))
				if _, err := do(given); err != api.OK {
					t.Fatalf("%s on %s = %d", call, name, err)
				}
				device.Read(given, 1)
				device.Check(given)
				if !same(widen(given), ahead) {
					t.Errorf("%s on %s, list %d: the device was changed", call, name, i)
				}
				if !sameActs(whole, aheadActs) {
					t.Errorf("%s on %s, list %d: the acts were changed", call, name, i)
				}
				if !slices.Equal(wholeKeep, []bool{true, false, true, true, false, true}) {
					t.Errorf("%s on %s: keep was changed", call, name)
				}
			}
		}
	}
}

func TestAnswersShareNothingWithArguments(t *testing.T) {
	for name, d := range mayBe() {
		if len(d.Sectors) > 100 {
			continue
		}
		for i, list := range actsForMemory() {
			for call := range calls(nil, nil) {
				acts := make([]api.Act, len(list))
				for i, a := range list {
					acts[i] = api.Act{Flush: a.Flush, At: a.At, Data: slices.Clone(a.Data)}
				}
				keep := []bool{true, false, true}
				given := twin(d)
				got, _ := calls(acts, keep)[call](given)
				ahead := twin(got)
				spoil(given)
				for _, a := range acts {
					spoilOctets(a.Data)
				}
				clear(acts)
				clear(keep)
				if !same(got, ahead) {
					t.Errorf("%s on %s, list %d: the answer shares memory with an argument", call, name, i)
				}
				given = twin(d)
				again, _ := calls(list, []bool{true, false, true})[call](given)
				spoil(got)
				if !same(again, ahead) || !same(given, d) {
					t.Errorf("%s on %s, list %d: two answers share memory", call, name, i)
				}
			}
		}
	}
}

// TestListsOfOneAnswerShareNothing: each list is written over in its turn, and
// all others must stay.
func TestListsOfOneAnswerShareNothing(t *testing.T) {
	one := data(70) // one memory, handed in many times
	acts := []api.Act{{At: 0, Data: one}, {At: 1, Data: one}, flush, {At: 0, Data: one}, {At: 0, Data: one}, {At: 1, Data: one}}
	shared := api.Device{Sectors: [][]byte{one, one, one}, Waits: []api.Write{{At: 0, Data: one}, {At: 1, Data: one}}}
	fresh, _ := device.New(3)
	done, _ := device.Do(shared, acts...)
	same0, _ := device.Do(shared)
	crashed, _ := device.Crash(shared, []bool{true, true})
	for name, d := range map[string]api.Device{"New": fresh, "Do": done, "Do of nothing": same0, "Crash": crashed} {
		var lists [][]byte
		lists = append(lists, d.Sectors...)
		for _, w := range d.Waits {
			lists = append(lists, w.Data)
		}
		for i, l := range lists {
			ahead := twin(d)
			spoilOctets(l)
			now := twin(d)
			for j := range lists {
				if j == i {
					continue
				}
				if j < len(d.Sectors) && !bytes.Equal(now.Sectors[j], ahead.Sectors[j]) {
					t.Errorf("%s: list %d shares memory with sector %d", name, i, j)
				}
				if k := j - len(d.Sectors); k >= 0 && !bytes.Equal(now.Waits[k].Data, ahead.Waits[k].Data) {
					t.Errorf("%s: list %d shares memory with write %d", name, i, k)
				}
			}
		}
	}
}

func TestReadAnswersNewMemory(t *testing.T) {
	d := waits(made(3), 1, 1)
	for at := range 3 {
		ahead := twin(d)
		one, _ := device.Read(d, at)
		two, _ := device.Read(d, at)
		want := slices.Clone(one)
		spoilOctets(one)
		if !same(d, ahead) || !bytes.Equal(two, want) {
			t.Errorf("Read(%d): the answer shares memory", at)
		}
		given := twin(d)
		got, _ := device.Read(given, at)
		spoil(given)
		if !bytes.Equal(got, want) {
			t.Errorf("Read(%d): the device's memory is answered", at)
		}
	}
}

func TestNewAnswersNewMemory(t *testing.T) {
	one, _ := device.New(4)
	spoil(one)
	two, err := device.New(4)
	if err != api.OK {
		t.Fatalf("New = %d", err)
	}
	for at, s := range two.Sectors {
		if !bytes.Equal(s, make([]byte, size)) {
			t.Errorf("New: sector %d is %x behind a write over another answer", at, s)
		}
	}
}

// TestNothingIsKept: the same call answers the same, whatever came between.
func TestNothingIsKept(t *testing.T) {
	d := waits(made(3), 0, 1, 0)
	acts := []api.Act{write(2, 1), flush, write(0, 2)}
	first, _ := device.Do(d, acts...)
	crash, _ := device.Crash(d, []bool{false, true})
	for _, other := range mayBe() {
		device.Do(other, flush, write(0, 9))
		device.Crash(other, []bool{true})
		device.Do(other, write(-1, 9))
		again, err := device.Do(d, acts...)
		if err != api.OK || !reflect.DeepEqual(again, first) {
			t.Fatalf("Do answers otherwise, %d", err)
		}
		if again, err := device.Crash(d, []bool{false, true}); err != api.OK || !reflect.DeepEqual(again, crash) {
			t.Fatalf("Crash answers otherwise, %d", err)
		}
	}
}

// TestNilAndEmptyAreOne: P1 of DOC.md.
func TestNilAndEmptyAreOne(t *testing.T) {
	bare := made(3)
	empty := api.Device{Sectors: bare.Sectors, Waits: []api.Write{}}
	for name, do := range calls([]api.Act{write(0, 1)}, []bool{}) {
		a, errA := do(bare)
		b, errB := do(empty)
		if errA != errB || !same(a, b) {
			t.Errorf("%s: no list and an empty one are told apart", name)
		}
	}
	d := waits(made(3), 0)
	a, _ := device.Crash(d, nil)
	b, _ := device.Crash(d, []bool{})
	if !same(a, b) {
		t.Error("Crash: no list and an empty one are told apart")
	}
}
