package store

import (
	"bytes"
	"slices"
	"strings"

	"godown/api"
	"godown/device"
	"godown/fields"
	"godown/pages"
	"godown/space"
	"godown/uber"
)

// step is a store, and the acts that led to it.
type step struct {
	store api.Store
	acts  []api.Act
}

// room is the sectors that are free, rising.
type room struct {
	free []int
}

// take answers the first n free sectors, which are not free any more, in
// memory of their own. It panics ErrFull.
func (r *room) take(n int) []int {
	if n > len(r.free) {
		fail(api.ErrFull)
	}
	taken := copied(r.free[:n])
	r.free = r.free[n:]
	return taken
}

// plan is what is to be done to a device.
type plan struct {
	acts []api.Act
}

// write plans the writes of the octets' pages to these sectors, of each with
// its next.
func (p *plan) write(b []byte, at []int, next []int) {
	place := 0
	for part := range slices.Chunk(b, api.Payload) {
		sector, err := pages.Encode(part, next[place])
		must(err)
		p.acts = append(p.acts, api.Act{At: at[place], Data: sector})
		place++
	}
}

// uberblock plans an uberblock's write to its slot.
func (p *plan) uberblock(u api.Uber) {
	sector, err := uber.Encode(u)
	must(err)
	p.acts = append(p.acts, api.Act{At: uber.Slot(u), Data: sector})
}

// flush plans a flush.
func (p *plan) flush() {
	p.acts = append(p.acts, api.Act{Flush: true})
}

// does answers the device behind all that is planned.
func (p *plan) does(d api.Device) api.Device {
	out, err := device.Do(d, p.acts...)
	must(err)
	return out
}

// writer writes objects into sectors that are free.
type writer struct {
	room
	plan
	before map[string]api.Object // what is there, by key
}

// format is Format, but for faults, which it panics.
func format(n int) step {
	d, err := device.New(n)
	must(err)
	u := api.Uber{Txg: newTxg}
	var p plan
	p.uberblock(api.Uber{Txg: newTxg - 1})
	p.uberblock(u)
	p.flush()
	return step{store: api.Store{Dev: p.does(d), Uber: u}, acts: p.acts}
}

// commit is Commit, but for faults, which it panics.
func commit(s api.Store, l []api.Object) step {
	must(Check(s))
	must(checkObjects(l))
	if indexSize(l) > api.MaxField {
		fail(api.ErrLong)
	}
	if s.Uber.Txg == api.MaxAmount {
		fail(api.ErrOver)
	}
	w := newWriter(s)
	out := api.Store{Uber: api.Uber{Txg: s.Uber.Txg + 1, Objects: len(l)}}
	for _, o := range l {
		out.Objects = append(out.Objects, w.object(o))
	}
	if len(l) > 0 {
		out.Index = w.index(out.Objects)
		out.Uber.First = out.Index[0]
	}
	// Between two flushes: the uberblock never stands ahead of what it leads to.
	w.flush()
	w.uberblock(out.Uber)
	w.flush()
	out.Dev = w.does(s.Dev)
	return step{store: out, acts: w.acts}
}

// newWriter answers a writer that writes on no sector of the store's.
func newWriter(s api.Store) *writer {
	free, err := space.Free(len(s.Dev.Sectors), slices.Collect(sectors(s)))
	must(err)
	before := make(map[string]api.Object, len(s.Objects))
	for _, o := range s.Objects {
		before[o.Key] = o
	}
	return &writer{room: room{free: free}, before: before}
}

// object answers the object where it stands: in the sectors that it has, if it
// is there with the same Data, else in ones that are written.
func (w *writer) object(o api.Object) api.Object {
	out := api.Object{Key: strings.Clone(o.Key), Data: copied(o.Data)}
	if old, is := w.before[o.Key]; is && bytes.Equal(old.Data, o.Data) {
		out.At = copied(old.At)
		return out
	}
	out.At = w.take(pages.Count(len(o.Data)))
	w.write(o.Data, out.At, slices.Repeat([]int{noPage}, len(out.At)))
	return out
}

// index answers the sectors in which it writes the index of the objects.
func (w *writer) index(l []api.Object) []int {
	b := indexOf(l)
	at := w.take(pages.Count(len(b)))
	w.write(b, at, append(copied(at[1:]), noPage))
	return at
}

// indexOf answers the octets of the objects' index.
func indexOf(l []api.Object) []byte {
	texts := make([]string, 0, perObject*len(l))
	for _, o := range l {
		texts = append(texts, o.Key)
		texts = append(texts, fields.Numbers(len(o.Data))...)
		texts = append(texts, strings.Join(fields.Numbers(o.At...), ""))
	}
	b, err := fields.Write(texts...)
	must(err)
	return b
}
