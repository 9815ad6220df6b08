package store_test

import (
	"bytes"
	"encoding/binary"
	"math"
	"math/rand"
	"slices"
	"strings"
	"testing"

	"godown/api"
	"godown/device"
	"godown/store"
)

// The limits as the document writes them.
const (
	sector     = 64
	payload    = 52
	maxSectors = 1 << 13
	maxObjects = 256
	maxField   = 1 << 16
	maxAmount  = 1 << 40
	maxKey     = 96
)

func TestLimits(t *testing.T) {
	if api.Sector != sector || api.Payload != payload || api.MaxSectors != maxSectors ||
		api.MaxObjects != maxObjects || api.MaxField != maxField || api.MaxAmount != maxAmount {
		t.Error("api's limits are not those of the document")
	}
}

// What stands where, told aside of the program's other layers.

// pageOf: the sector of a page.
func pageOf(b []byte, next int) []byte {
	out := binary.BigEndian.AppendUint16(nil, uint16(len(b)))
	out = binary.BigEndian.AppendUint16(out, uint16(next))
	out = append(out, b...)
	out = append(out, make([]byte, 56-len(out))...)
	var a uint64
	for at := 0; at < 56; at += 4 {
		a += uint64(binary.BigEndian.Uint32(out[at:]))
	}
	return binary.BigEndian.AppendUint64(out, a)
}

// uberOf: the sector of an uberblock.
func uberOf(u api.Uber) []byte {
	out := binary.BigEndian.AppendUint64([]byte("gdn1"), uint64(u.Txg))
	out = binary.BigEndian.AppendUint32(out, uint32(u.First))
	out = binary.BigEndian.AppendUint32(out, uint32(u.Objects))
	out = append(out, make([]byte, 32-len(out))...)
	var sum [4]uint64
	for at := 0; at < 32; at += 4 {
		sum[0] += uint64(binary.BigEndian.Uint32(out[at:]))
		for i := 1; i < 4; i++ {
			sum[i] += sum[i-1]
		}
	}
	for _, s := range sum {
		out = binary.BigEndian.AppendUint64(out, s)
	}
	return out
}

// textsOf: the octets of a list of texts, whatever it holds.
func textsOf(l ...string) []byte {
	out := binary.BigEndian.AppendUint16(nil, uint16(len(l)))
	for _, s := range l {
		out = append(out, byte(len(s)>>16), byte(len(s)>>8), byte(len(s)))
		out = append(out, s...)
	}
	return out
}

// numbersOf: numbers of 8 octets, one behind the other.
func numbersOf(l ...int) string {
	var out []byte
	for _, n := range l {
		out = binary.BigEndian.AppendUint64(out, uint64(n))
	}
	return string(out)
}

// indexOf: the octets of the objects' index.
func indexOf(l []api.Object) []byte {
	var texts []string
	for _, o := range l {
		texts = append(texts, o.Key, numbersOf(len(o.Data)), numbersOf(o.At...))
	}
	return textsOf(texts...)
}

// cut: octets, 52 at a time.
func cut(b []byte) [][]byte {
	var out [][]byte
	for len(b) > payload {
		out, b = append(out, b[:payload]), b[payload:]
	}
	if len(b) > 0 {
		out = append(out, b)
	}
	return out
}

// pagesOf: how many pages octets need, one by one.
func pagesOf(n int) int {
	count := 0
	for ; n > 0; n -= payload {
		count++
	}
	return count
}

// usedBy: all sectors of objects and index.
func usedBy(s api.Store) []int {
	var out []int
	for _, o := range s.Objects {
		out = append(out, o.At...)
	}
	return append(out, s.Index...)
}

// needOf: how many pages a list needs, by its index as it would stand.
func needOf(l []api.Object) int {
	if len(l) == 0 {
		return 0
	}
	need := 0
	var placed []api.Object
	for _, o := range l {
		n := pagesOf(len(o.Data))
		need += n
		placed = append(placed, api.Object{Key: o.Key, Data: o.Data, At: make([]int, n)})
	}
	return need + pagesOf(len(indexOf(placed)))
}

// What tests are made of.

// text: that many octets, told apart by n.
func text(n, size int) []byte {
	b := make([]byte, size)
	for i := range b {
		b[i] = byte(n*37 + i*11 + i/255 + 1)
	}
	return b
}

// object: one of that many octets, and no At.
func object(key string, size int) api.Object {
	n := 0
	for _, c := range []byte(key) {
		n = n*3 + int(c)
	}
	return api.Object{Key: key, Data: text(n, size)}
}

// objects: one of each size, by rising keys.
func objects(sizes ...int) []api.Object {
	var out []api.Object
	for i, size := range sizes {
		out = append(out, object(string([]byte{'a' + byte(i/26), 'a' + byte(i%26)}), size))
	}
	return out
}

// key: of that many octets, rising with n.
func key(n, size int) string {
	s := string([]byte{byte('0' + n/100), byte('0' + n/10%10), byte('0' + n%10)})
	return s + strings.Repeat("k", size-len(s))
}

// made: a new store, told aside of Format.
func made(n int) api.Store {
	s := api.Store{Uber: api.Uber{Txg: 2}}
	for range n {
		s.Dev.Sectors = append(s.Dev.Sectors, make([]byte, sector))
	}
	copy(s.Dev.Sectors[1], uberOf(api.Uber{Txg: 1}))
	copy(s.Dev.Sectors[0], uberOf(api.Uber{Txg: 2}))
	return s
}

// stood: a store on a device of n sectors, its objects and its index in the
// sectors that are told, and nothing in all others.
func stood(n, txg int, l []api.Object, index ...int) api.Store {
	s := api.Store{Uber: api.Uber{Txg: txg, Objects: len(l)}, Objects: l, Index: index}
	for range n {
		s.Dev.Sectors = append(s.Dev.Sectors, make([]byte, sector))
	}
	for _, o := range l {
		for i, part := range cut(o.Data) {
			s.Dev.Sectors[o.At[i]] = pageOf(part, 0)
		}
	}
	if len(l) > 0 {
		s.Uber.First = index[0]
		for i, part := range cut(indexOf(l)) {
			next := 0
			if i+1 < len(index) {
				next = index[i+1]
			}
			s.Dev.Sectors[index[i]] = pageOf(part, next)
		}
	}
	s.Dev.Sectors[txg%2] = uberOf(s.Uber)
	return s
}

// committed: lists, one behind the other, in a new store.
func committed(t testing.TB, n int, lists ...[]api.Object) api.Store {
	t.Helper()
	s := made(n)
	for i, l := range lists {
		out, _, err := store.Commit(s, l)
		if err != api.OK {
			t.Fatalf("commit %d of %d: %d", i, len(lists), err)
		}
		s = out
	}
	return s
}

func twinDevice(d api.Device) api.Device {
	var out api.Device
	for _, b := range d.Sectors {
		out.Sectors = append(out.Sectors, bytes.Clone(b))
	}
	for _, w := range d.Waits {
		out.Waits = append(out.Waits, api.Write{At: w.At, Data: bytes.Clone(w.Data)})
	}
	return out
}

func twinObjects(l []api.Object) []api.Object {
	var out []api.Object
	for _, o := range l {
		out = append(out, api.Object{Key: o.Key, Data: bytes.Clone(o.Data), At: slices.Clone(o.At)})
	}
	return out
}

// twin: a copy that shares nothing.
func twin(s api.Store) api.Store {
	return api.Store{Dev: twinDevice(s.Dev), Uber: s.Uber, Objects: twinObjects(s.Objects), Index: slices.Clone(s.Index)}
}

// but: the store with something done to a copy of it.
func but(s api.Store, change func(s *api.Store)) api.Store {
	out := twin(s)
	change(&out)
	return out
}

// In all of these nil and empty lists are one.

func sameDevice(a, b api.Device) bool {
	return slices.EqualFunc(a.Sectors, b.Sectors, bytes.Equal) && slices.EqualFunc(a.Waits, b.Waits, func(x, y api.Write) bool {
		return x.At == y.At && bytes.Equal(x.Data, y.Data)
	})
}

func sameObjects(a, b []api.Object) bool {
	return slices.EqualFunc(a, b, func(x, y api.Object) bool {
		return x.Key == y.Key && bytes.Equal(x.Data, y.Data) && slices.Equal(x.At, y.At)
	})
}

// sameKept: but for the device.
func sameKept(a, b api.Store) bool {
	return a.Uber == b.Uber && sameObjects(a.Objects, b.Objects) && slices.Equal(a.Index, b.Index)
}

func same(a, b api.Store) bool {
	return sameKept(a, b) && sameDevice(a.Dev, b.Dev)
}

func sameActs(a, b []api.Act) bool {
	return slices.EqualFunc(a, b, func(x, y api.Act) bool {
		return x.Flush == y.Flush && x.At == y.At && bytes.Equal(x.Data, y.Data)
	})
}

func isZero(s api.Store) bool {
	return same(s, api.Store{})
}

// P10.1: Format

func TestFormat(t *testing.T) {
	for _, n := range []int{2, 3, 4, 5, 20, 63, 64, 1000, maxSectors - 1, maxSectors} {
		s, acts, err := store.Format(n)
		if err != api.OK || !same(s, made(n)) {
			t.Errorf("Format(%d) = %v, %v, %d", n, s.Uber, s.Index, err)
		}
		want := []api.Act{
			{At: 1, Data: uberOf(api.Uber{Txg: 1})},
			{At: 0, Data: uberOf(api.Uber{Txg: 2})},
			{Flush: true},
		}
		if !sameActs(acts, want) {
			t.Errorf("Format(%d) acts %v", n, acts)
		}
		if store.Check(s) != api.OK || store.Used(s) != 0 {
			t.Errorf("Format(%d): Check %d, Used %d", n, store.Check(s), store.Used(s))
		}
	}
}

// TestFormatActs: done on a new device they make that of the store, and there
// it is opened; on one that was used, too.
func TestFormatActs(t *testing.T) {
	for _, n := range []int{2, 3, 20, maxSectors} {
		s, acts, _ := store.Format(n)
		d, _ := device.New(n)
		d, err := device.Do(d, acts...)
		if err != api.OK || !sameDevice(d, s.Dev) {
			t.Errorf("Format(%d): its acts make another device (%d)", n, err)
		}
		if o, err := store.Open(d); err != api.OK || !same(o, s) {
			t.Errorf("Format(%d), opened: %v, %d", n, o.Uber, err)
		}
	}
	s := committed(t, 30, objects(60, 3), objects(9))
	_, acts, _ := store.Format(30)
	d, _ := device.Do(s.Dev, acts...)
	if o, err := store.Open(d); err != api.OK || !sameKept(o, made(30)) {
		t.Errorf("formatted again: %v, %d", o.Uber, err)
	}
}

func TestFormatOutOfRange(t *testing.T) {
	for _, n := range []int{1, 0, -1, -2, -maxSectors, math.MinInt, math.MinInt + 2, maxSectors + 1, maxSectors + 2, 2 * maxSectors, 1 << 16, 1<<32 + 2, math.MaxInt} {
		s, acts, err := store.Format(n)
		if err != api.ErrRange || !isZero(s) || len(acts) != 0 {
			t.Errorf("Format(%d) = %v, %v, %d, want ErrRange alone", n, s.Uber, acts, err)
		}
	}
}

// P10.1: Check

// good: a store of objects of several sizes, and with sectors between.
func good() api.Store {
	l := []api.Object{
		{Key: "a", Data: text(1, 51), At: []int{7}},
		{Key: "b"},
		{Key: "ba", Data: text(2, 105), At: []int{19, 2, 11}},
		{Key: "c", Data: text(3, 52), At: []int{5}},
		{Key: "d", Data: text(4, 53), At: []int{8, 3}},
	}
	return stood(20, 6, l, 10, 4, 18)
}

// bigObjects: as many as told, of one page each, with keys of that many
// octets, from the second sector on; and the sectors behind them for an index.
func bigObjects(n, keySize int) ([]api.Object, []int) {
	var out []api.Object
	for i := range n {
		out = append(out, api.Object{Key: key(i, keySize), Data: text(i, 1), At: []int{2 + i}})
	}
	var index []int
	for at := range pagesOf(len(indexOf(out))) {
		index = append(index, 2+n+at)
	}
	return out, index
}

// mayBe: stores at the edges.
func mayBe() map[string]api.Store {
	g := good()
	long := api.Object{Key: "long", Data: text(5, maxField)}
	for at := range pagesOf(maxField) {
		long.At = append(long.At, 2000-at)
	}
	most, index := bigObjects(maxObjects, maxKey)
	out := map[string]api.Store{
		"of no objects":                 made(2),
		"of no objects, 2^13 sectors":   made(maxSectors),
		"of one object":                 stood(4, 1, []api.Object{{Key: "a", Data: text(1, 1), At: []int{3}}}, 2),
		"of one without Data":           stood(3, 1, []api.Object{{Key: "a"}}, 2),
		"of several":                    g,
		"of a key of 96 octets":         stood(6, 3, []api.Object{{Key: strings.Repeat("z", maxKey), Data: text(1, 1), At: []int{3}}}, 2, 5, 4),
		"of a key that is no name":      stood(4, 3, []api.Object{{Key: "\x00\xff", Data: text(1, 1), At: []int{3}}}, 2),
		"of MaxField octets":            stood(2200, 3, []api.Object{long}, append(riseFrom(2001, 199), riseFrom(700, 10)...)[:pagesOf(len(indexOf([]api.Object{long})))]...),
		"of 256 objects":                stood(maxSectors, 3, most, index...),
		"of the last Txg":               but(g, func(s *api.Store) { s.Uber.Txg = maxAmount }),
		"of the first Txg":              but(g, func(s *api.Store) { s.Uber.Txg = 1 }),
		"on a device of zeros":          but(g, func(s *api.Store) { s.Dev, _ = device.New(20) }),
		"of another First":              but(g, func(s *api.Store) { s.Uber.First = 17 }),
		"of a First beyond the device":  but(g, func(s *api.Store) { s.Uber.First = maxSectors - 1 }),
		"of a longer index":             but(g, func(s *api.Store) { s.Index = append(s.Index, 9, 6) }),
		"of an index of none":           but(g, func(s *api.Store) { s.Index = nil }),
		"of no objects, with an index":  but(made(5), func(s *api.Store) { s.Index = []int{4, 2} }),
		"of each sector used":           but(g, func(s *api.Store) { s.Index = append(s.Index, 6, 9, 12, 13, 14, 15, 16, 17) }),
		"of the last sector in the end": but(g, func(s *api.Store) { s.Index[2] = 19; s.Objects[2].At[0] = 18 }),
	}
	return out
}

// riseFrom: that many numbers.
func riseFrom(first, n int) []int {
	var out []int
	for i := range n {
		out = append(out, first+i)
	}
	return out
}

// mayNotBe: stores of which one thing is wrong.
func mayNotBe() map[string]api.Store {
	g := good()
	out := map[string]api.Store{
		"nothing":                {},
		"a device alone":         {Dev: g.Dev},
		"no device":              {Uber: g.Uber, Objects: g.Objects, Index: g.Index},
		"a new one without uber": {Dev: made(4).Dev},
	}
	out["257 objects"] = tooMany()
	out["Data beyond MaxField"] = tooLong()
	add := func(what string, change func(s *api.Store)) { out[what] = but(g, change) }
	addWrongDevices(add)
	addWrongUbers(add)
	addWrongObjects(add)
	addWrongPlaces(add)
	add("several faults", func(s *api.Store) { s.Objects[0].Key = ""; s.Index[0] = 0; s.Uber.Txg = 0 })
	return out
}

// In these each change is one of the good store.

func addWrongDevices(add func(what string, change func(s *api.Store))) {
	add("device of 1 sector", func(s *api.Store) { s.Dev.Sectors = s.Dev.Sectors[:1] })
	add("device that is too small", func(s *api.Store) { s.Dev.Sectors = s.Dev.Sectors[:19] })
	add("device of 2^13 + 1 sectors", func(s *api.Store) {
		for len(s.Dev.Sectors) <= maxSectors {
			s.Dev.Sectors = append(s.Dev.Sectors, make([]byte, sector))
		}
	})
	add("sector of 63 octets", func(s *api.Store) { s.Dev.Sectors[12] = s.Dev.Sectors[12][:63] })
	add("sector of 65 octets", func(s *api.Store) { s.Dev.Sectors[19] = make([]byte, 65) })
	add("nil sector", func(s *api.Store) { s.Dev.Sectors[6] = nil })
	add("a write waits", func(s *api.Store) { s.Dev.Waits = []api.Write{{At: 6, Data: make([]byte, sector)}} })
	add("the write that stands waits", func(s *api.Store) { s.Dev.Waits = []api.Write{{At: 7, Data: s.Dev.Sectors[7]}} })
	add("a write of no sector waits", func(s *api.Store) { s.Dev.Waits = []api.Write{{At: 20, Data: make([]byte, sector)}} })
}

func addWrongUbers(add func(what string, change func(s *api.Store))) {
	for what, u := range map[string]api.Uber{
		"Txg 0":                 {Txg: 0, First: 10, Objects: 5},
		"Txg -1":                {Txg: -1, First: 10, Objects: 5},
		"Txg above MaxAmount":   {Txg: maxAmount + 1, First: 10, Objects: 5},
		"First 0":               {Txg: 6, First: 0, Objects: 5},
		"First 1":               {Txg: 6, First: 1, Objects: 5},
		"First -1":              {Txg: 6, First: -1, Objects: 5},
		"First 2^13":            {Txg: 6, First: maxSectors, Objects: 5},
		"Objects 0":             {Txg: 6, First: 10, Objects: 0},
		"Objects 0 and First":   {Txg: 6},
		"Objects one fewer":     {Txg: 6, First: 10, Objects: 4},
		"Objects one more":      {Txg: 6, First: 10, Objects: 6},
		"Objects -5":            {Txg: 6, First: 10, Objects: -5},
		"Objects beyond 2^10":   {Txg: 6, First: 10, Objects: 1<<10 + 1},
		"Objects 2^32 too many": {Txg: 6, First: 10, Objects: 1<<32 + 5},
	} {
		add(what, func(s *api.Store) { s.Uber = u })
	}
}

func addWrongObjects(add func(what string, change func(s *api.Store))) {
	for what, k := range map[string]struct {
		object int
		key    string
	}{
		"empty key":                  {0, ""},
		"key as the one ahead":       {2, "b"},
		"key as the one behind":      {2, "c"},
		"key below the one ahead":    {2, "az"},
		"key above the one behind":   {2, "ca"},
		"last key as the first":      {4, "a"},
		"last key below":             {4, "Z"},
		"key of 97 octets":           {4, strings.Repeat("z", maxKey+1)},
		"middle key of 97 octets":    {2, "b" + strings.Repeat("a", maxKey)},
		"key of 2^16 octets":         {4, strings.Repeat("z", maxField)},
		"empty key that is no first": {3, ""},
	} {
		add(what, func(s *api.Store) { s.Objects[k.object].Key = k.key })
	}
	add("Data one octet too long", func(s *api.Store) { s.Objects[3].Data = text(3, 53) })
	add("Data of none, with an At", func(s *api.Store) { s.Objects[3].Data = nil })
	add("an object more", func(s *api.Store) { s.Objects = append(s.Objects, api.Object{Key: "e"}) })
	add("an object fewer", func(s *api.Store) { s.Objects = s.Objects[:4] })
	add("no objects", func(s *api.Store) { s.Objects = nil })
}

func addWrongPlaces(add func(what string, change func(s *api.Store))) {
	for what, a := range map[string]struct {
		object int
		at     []int
	}{
		"At of none":                     {0, nil},
		"At of one too many":             {0, []int{7, 12}},
		"At of one without Data":         {1, []int{12}},
		"At of one too few":              {2, []int{19, 2}},
		"At of 4 for 3 pages":            {2, []int{19, 2, 11, 12}},
		"At of 2 for 52 octets":          {3, []int{5, 12}},
		"At of 1 for 53 octets":          {4, []int{8}},
		"At in sector 0":                 {0, []int{0}},
		"At in sector 1":                 {3, []int{1}},
		"At in sector -1":                {3, []int{-1}},
		"At in the lowest number":        {3, []int{math.MinInt}},
		"At behind the device":           {2, []int{20, 2, 11}},
		"At behind the device, last":     {2, []int{19, 2, 20}},
		"At in sector 2^32 + 12":         {2, []int{19, 1<<32 + 12, 11}},
		"At in the highest number":       {0, []int{math.MaxInt}},
		"twice in an At":                 {2, []int{19, 2, 19}},
		"twice in an At, side by side":   {4, []int{8, 8}},
		"in two At's":                    {0, []int{5}},
		"in two At's, the last":          {4, []int{8, 7}},
		"in an At and in Index":          {0, []int{10}},
		"in an At and the last of Index": {4, []int{18, 3}},
	} {
		add(what, func(s *api.Store) { s.Objects[a.object].At = a.at })
	}
	for what, index := range map[string][]int{
		"Index in sector 0":          {10, 4, 0},
		"Index in sector 1":          {1, 4, 18},
		"Index in sector -1":         {10, -1, 18},
		"Index behind the device":    {10, 4, 20},
		"Index in the lowest number": {10, math.MinInt, 18},
		"Index in a huge number":     {10, 4, math.MaxInt},
		"Index twice":                {10, 4, 10},
		"Index where an object is":   {10, 4, 11},
		"a longer Index, twice":      {10, 4, 18, 4},
	} {
		add(what, func(s *api.Store) { s.Index = index })
	}
}

// tooMany: a store that would be, but for the number of its objects.
func tooMany() api.Store {
	l, index := bigObjects(maxObjects+1, 3)
	return stood(maxSectors, 3, l, index...)
}

// tooLong: a store that would be, but for one octet of Data: as many pages as
// MaxField octets need have room for it.
func tooLong() api.Store {
	o := api.Object{Key: "a", Data: text(1, maxField+1), At: riseFrom(1000, pagesOf(maxField+1))}
	return stood(4000, 3, []api.Object{o}, riseFrom(3000, pagesOf(len(indexOf([]api.Object{o}))))...)
}

func TestCheck(t *testing.T) {
	for what, s := range mayBe() {
		if err := store.Check(s); err != api.OK {
			t.Errorf("Check of a store %s = %d", what, err)
		}
	}
	for what, s := range mayNotBe() {
		if err := store.Check(s); err != api.ErrState {
			t.Errorf("Check of %s = %d, want ErrState", what, err)
		}
	}
}

// TestCheckOfEachSector: each sector in each place of At's and Index.
func TestCheckOfEachSector(t *testing.T) {
	g := good()
	for place := range len(usedBy(g)) {
		for at := -3; at < 24; at++ {
			s := twin(g)
			var spots []*int
			for i := range s.Objects {
				for j := range s.Objects[i].At {
					spots = append(spots, &s.Objects[i].At[j])
				}
			}
			for i := range s.Index {
				spots = append(spots, &s.Index[i])
			}
			*spots[place] = at
			want := api.OK
			if met := slices.Index(usedBy(g), at); at < 2 || at >= 20 || met >= 0 && met != place {
				want = api.ErrState
			}
			if err := store.Check(s); err != want {
				t.Errorf("sector %d at place %d: Check = %d, want %d", at, place, err, want)
			}
		}
	}
}

// P10.1: Get

func TestGet(t *testing.T) {
	for what, s := range mayBe() {
		for _, o := range s.Objects {
			if b, is := store.Get(s, o.Key); !is || !bytes.Equal(b, o.Data) {
				t.Errorf("Get of %q of a store %s = %x, %t", o.Key, what, b, is)
			}
		}
	}
	for _, k := range []string{"", "A", "aa", "a\x00", "b ", "bb", "e", " a", "\xff", strings.Repeat("z", 1<<17)} {
		if b, is := store.Get(good(), k); is || b != nil {
			t.Errorf("Get of %q = %x, %t, want none", k, b, is)
		}
		if b, is := store.Get(api.Store{}, k); is || b != nil {
			t.Errorf("Get of %q of nothing = %x, %t, want none", k, b, is)
		}
	}
}

// TestGetOfAnyStore: what is there is there, whatever else the store is; the
// first of several counts.
func TestGetOfAnyStore(t *testing.T) {
	for what, s := range mayNotBe() {
		met := map[string]bool{}
		for _, o := range s.Objects {
			if b, is := store.Get(s, o.Key); !met[o.Key] && (!is || !bytes.Equal(b, o.Data)) {
				t.Errorf("Get of %.10q of %s = %d octets, %t", o.Key, what, len(b), is)
			}
			met[o.Key] = true
		}
	}
	s := api.Store{Objects: []api.Object{{Key: "c", Data: text(1, 5)}, {Key: "a", Data: text(2, 5)}, {Key: "", Data: text(3, 5)}, {Key: "a", Data: text(4, 5)}, {Key: "b"}}}
	for k, want := range map[string][]byte{"a": text(2, 5), "b": nil, "c": text(1, 5), "": text(3, 5)} {
		if b, is := store.Get(s, k); !is || !bytes.Equal(b, want) {
			t.Errorf("Get of %q of objects that fall = %x, %t", k, b, is)
		}
	}
}

// P10.1: Used

func TestUsed(t *testing.T) {
	for what, s := range mayBe() {
		if n := store.Used(s); n != len(usedBy(s)) {
			t.Errorf("Used of a store %s = %d, want %d", what, n, len(usedBy(s)))
		}
	}
	for what, s := range mayNotBe() {
		if n := store.Used(s); n != len(usedBy(s)) {
			t.Errorf("Used of %s = %d, want %d", what, n, len(usedBy(s)))
		}
	}
	for _, c := range []struct {
		s    api.Store
		want int
	}{
		{api.Store{}, 0},
		{api.Store{Index: []int{2}}, 1},
		{api.Store{Index: []int{2, 2, 0, -1}}, 4},
		{api.Store{Objects: []api.Object{{At: []int{5, 6}}, {}, {At: []int{5, math.MaxInt}}}, Index: []int{5}}, 5},
		{good(), 10},
	} {
		if n := store.Used(c.s); n != c.want {
			t.Errorf("Used of %v, %v = %d, want %d", c.s.Objects, c.s.Index, n, c.want)
		}
	}
}

// P10.1: Need

func TestNeedByHand(t *testing.T) {
	for _, c := range []struct {
		l    []api.Object
		want int
	}{
		// The index of one has 2 octets, 9 of lengths, 8 of a number, the key
		// and 8 for each sector.
		{nil, 0},
		{objects(), 0},
		{[]api.Object{{Key: "a"}}, 1}, // 20
		{[]api.Object{{Key: strings.Repeat("a", 33)}}, 1},                              // 52
		{[]api.Object{{Key: strings.Repeat("a", 34)}}, 2},                              // 53
		{[]api.Object{{Key: strings.Repeat("a", 25), Data: text(1, 1)}}, 2},            // 52 and 1
		{[]api.Object{{Key: strings.Repeat("a", 26), Data: text(1, 1)}}, 3},            // 53 and 1
		{[]api.Object{{Key: strings.Repeat("a", 25), Data: text(1, 52)}}, 2},           // 52 and 52
		{[]api.Object{{Key: strings.Repeat("a", 25), Data: text(1, 53)}}, 4},           // 60 and 53
		{[]api.Object{{Key: strings.Repeat("a", 17), Data: text(1, 53)}}, 3},           // 52 and 53
		{[]api.Object{{Key: "a", Data: text(1, 104)}}, 3},                              // 36 and 104
		{[]api.Object{{Key: "a", Data: text(1, 105)}}, 4},                              // 44 and 105
		{[]api.Object{{Key: "a", Data: text(1, 156)}}, 4},                              // 44 and 156
		{[]api.Object{{Key: "a", Data: text(1, 157)}}, 5},                              // 52 and 157
		{[]api.Object{{Key: "a", Data: text(1, 209)}}, 7},                              // 60 and 209
		{[]api.Object{{Key: "aaaaaaaa"}, {Key: "aaaaaaaa"}}, 1},                        // 52
		{[]api.Object{{Key: "aaaaaaaa"}, {Key: "aaaaaaaaa"}}, 2},                       // 53
		{[]api.Object{{Key: "a", Data: text(1, maxField)}}, 1261 + 195},                // 10108
		{[]api.Object{{Key: "a", Data: text(1, 1), At: []int{1, 2, 3, 4, 5, 6}}}, 2},   // At counts for nothing
		{[]api.Object{{At: []int{1}}}, 1},                                              // a key of none
		{[]api.Object{{Key: strings.Repeat("a", maxField), Data: text(1, 1)}}, 1262},   // too long a key: 65563
		{[]api.Object{{Key: "a", Data: make([]byte, maxField+1)}}, 1261 + 195},         // too long
		{[]api.Object{{Key: "a", Data: make([]byte, 10*maxField)}}, 12604 + 1940},      // 100852
		{[]api.Object{{Key: "b", Data: text(1, 60)}, {Key: "a", Data: text(1, 2)}}, 5}, // keys that fall: 62
	} {
		if n := store.Need(c.l); n != c.want {
			t.Errorf("Need of %d objects (want %d) = %d", len(c.l), c.want, n)
		}
	}
}

func TestNeed(t *testing.T) {
	r := rand.New(rand.NewSource(101))
	for range 400 {
		var l []api.Object
		for range r.Intn(12) {
			l = append(l, api.Object{Key: strings.Repeat("k", r.Intn(120)), Data: make([]byte, r.Intn(300)), At: make([]int, r.Intn(4))})
		}
		if n := store.Need(l); n != needOf(l) {
			t.Fatalf("Need of %d objects = %d, want %d", len(l), n, needOf(l))
		}
	}
	for _, n := range []int{255, 256, 257, 341, 342, 343, 1000} {
		var l []api.Object
		for i := range n {
			l = append(l, api.Object{Key: key(i%1000, 3+i%100), Data: make([]byte, i%200)})
		}
		if got := store.Need(l); got != needOf(l) {
			t.Errorf("Need of %d objects = %d, want %d", n, got, needOf(l))
		}
	}
}

// TestNeedIsUsed: what a list needs is what its store has.
func TestNeedIsUsed(t *testing.T) {
	for what, s := range mayBe() {
		c, _, err := store.Commit(but(s, func(s *api.Store) { s.Uber.Txg = 9 }), s.Objects)
		if err == api.ErrFull {
			continue
		}
		if err != api.OK || store.Used(c) != store.Need(s.Objects) {
			t.Errorf("objects of a store %s need %d, and have %d (%d)", what, store.Need(s.Objects), store.Used(c), err)
		}
	}
}
