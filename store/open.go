package store

import (
	"iter"
	"slices"

	"godown/api"
	"godown/device"
	"godown/fields"
	"godown/pages"
	"godown/uber"
)

// claims is the sectors that were met, of so many in all.
type claims struct {
	total int
	met   map[int]struct{}
}

// claim panics ErrCorrupt unless a page may stand in the sector, and it was
// not met ahead: so whatever goes from sector to sector ends.
func (c *claims) claim(at int) {
	_, twice := c.met[at]
	if twice || at < firstPage || at >= c.total {
		fail(api.ErrCorrupt)
	}
	c.met[at] = struct{}{}
}

// reader reads the pages of a device, each once.
type reader struct {
	claims
	sectors [][]byte
}

// open is Open, but for faults, which it panics.
func open(d api.Device) api.Store {
	own, err := device.Do(d) // no acts: it is checked, and copied
	must(err)
	if len(own.Waits) > 0 {
		fail(api.ErrState)
	}
	u, _, err := uber.Newest(own.Sectors[0], own.Sectors[1])
	must(err)
	r := newReader(own)
	out := api.Store{Dev: own, Uber: u}
	var index []byte
	for at, part := range r.chain(u.First) {
		out.Index = append(out.Index, at)
		index = append(index, part...)
	}
	for text := range entries(index, u.Objects) {
		out.Objects = append(out.Objects, r.object(text))
	}
	if Check(out) != api.OK {
		fail(api.ErrCorrupt)
	}
	return out
}

// newReader answers a reader that has met nothing.
func newReader(d api.Device) *reader {
	return &reader{
		claims:  claims{total: len(d.Sectors), met: map[int]struct{}{}},
		sectors: d.Sectors,
	}
}

// page answers the octets of the page in the sector, and its next. It panics
// ErrCorrupt.
func (r *reader) page(at int) ([]byte, int) {
	r.claim(at)
	b, next, err := pages.Decode(r.sectors[at])
	must(err)
	return b, next
}

// chain hands out the index's pages from the first on: of each its sector and
// its octets. It panics ErrCorrupt.
func (r *reader) chain(first int) iter.Seq2[int, []byte] {
	return func(yield func(int, []byte) bool) {
		for at := first; at != noPage; {
			b, next := r.page(at)
			// A commit fills each page ahead of the next one: a page behind the
			// index's end would be empty, or follow one with room.
			if len(b) == 0 || next != noPage && len(b) < api.Payload {
				fail(api.ErrCorrupt)
			}
			if !yield(at, b) {
				return
			}
			at = next
		}
	}
}

// entries hands out the texts of each of so many objects. It panics
// ErrCorrupt.
func entries(index []byte, objects int) iter.Seq[[]string] {
	if objects == 0 {
		return slices.Chunk([]string(nil), perObject) // their index stands nowhere
	}
	texts, err := fields.Read(index)
	if err != api.OK || len(texts) != perObject*objects {
		fail(api.ErrCorrupt)
	}
	return slices.Chunk(texts, perObject)
}

// object answers the object of which the index has these texts. It panics
// ErrCorrupt.
func (r *reader) object(texts []string) api.Object {
	out := api.Object{Key: texts[0], At: numbers(texts[2])}
	size := number(texts[1])
	if len(out.At) != pages.Count(size) {
		fail(api.ErrCorrupt)
	}
	for _, at := range out.At {
		b, next := r.page(at)
		if next != noPage || len(b) != min(api.Payload, size-len(out.Data)) {
			fail(api.ErrCorrupt)
		}
		out.Data = append(out.Data, b...)
	}
	return out
}

// numbers reads numbers that stand one behind the other. It panics ErrCorrupt.
func numbers(s string) []int {
	var out []int
	for part := range slices.Chunk([]byte(s), numberSize) {
		out = append(out, number(string(part)))
	}
	return out
}

// number reads a number's text. It panics ErrCorrupt.
func number(s string) int {
	n, err := fields.Number(s)
	if err != api.OK {
		fail(api.ErrCorrupt)
	}
	return n
}
