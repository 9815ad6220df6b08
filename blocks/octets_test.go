package blocks_test

import (
	"bytes"
	"math/rand"
	"slices"
	"testing"

	"godown/api"
	"godown/blocks"
)

// P11.2: Octets and Read, and P11.4

func TestOctets(t *testing.T) {
	for what, l := range contents() {
		want := wantOctets(l)
		b, err := blocks.Octets(l)
		if err != api.OK || !bytes.Equal(b, want) || len(l) == 0 && b != nil {
			t.Errorf("Octets of %s: %d octets, %d, want %d", what, len(b), err, len(want))
		}
		if back, err := blocks.Read(b); err != api.OK || !slices.Equal(back, l) || len(l) == 0 && back != nil {
			t.Errorf("Read of what Octets answers of %s: %d blocks, %d", what, len(back), err)
		}
	}
	for what, l := range noContents() {
		if b, err := blocks.Octets(l); err != api.ErrState || b != nil {
			t.Errorf("Octets of blocks that are no content, %s: %d octets, %d", what, len(b), err)
		}
	}
}

func TestOctetsByHand(t *testing.T) {
	l := []api.Block{{Index: 0, Data: "0123456789abcdef"}, {Index: 258, Data: "\x00\xff0123456789abcd"}, {Index: maxIndex - 1, Data: "................"}}
	want := "\x00\x000123456789abcdef" + "\x01\x02\x00\xff0123456789abcd" + "\x03\xff................"
	if b, err := blocks.Octets(l); err != api.OK || string(b) != want {
		t.Errorf("Octets = %q, %d", b, err)
	}
	if got, err := blocks.Read([]byte(want)); err != api.OK || !slices.Equal(got, l) {
		t.Errorf("Read = %v, %d", got, err)
	}
}

// wantRead: what the words say of octets, block by block from the end.
func wantRead(b []byte) ([]api.Block, api.Errno) {
	if len(b)%18 != 0 {
		return nil, api.ErrShort
	}
	var out []api.Block
	for at := len(b) - 18; at >= 0; at -= 18 {
		index := int(b[at])*256 + int(b[at+1])
		out = append(out, api.Block{Index: index, Data: string(b[at+2 : at+18])})
	}
	slices.Reverse(out)
	if err := wantCheck(out); err != api.OK {
		return nil, err
	}
	return out, api.OK
}

// mustRead: what is read is as the words tell it, and comes back as octets.
func mustRead(t *testing.T, what string, b []byte) {
	t.Helper()
	want, wantErr := wantRead(b)
	got, err := blocks.Read(b)
	if err != wantErr || !slices.Equal(got, want) || len(want) == 0 && got != nil {
		t.Fatalf("Read of %s: %d blocks, %d, want %d, %d", what, len(got), err, len(want), wantErr)
	}
	if err != api.OK {
		return
	}
	if back, err := blocks.Octets(got); err != api.OK || !bytes.Equal(back, b) {
		t.Fatalf("Octets of what Read answers of %s: %d octets, %d", what, len(back), err)
	}
}

// TestReadOfAllLengths: whole blocks and parts of one, of a content and of
// none; a part goes ahead of what is no content.
func TestReadOfAllLengths(t *testing.T) {
	for what, b := range map[string][]byte{
		"a content": wantOctets(span(0, 12)),
		"zeros":     make([]byte, 216),
		"a fall":    wantOctets(content(5, 4, 3, 2, 1, 0, 5, 4, 3, 2, 1, 0)),
		"no index":  bytes.Repeat([]byte{0xff}, 216),
	} {
		for n := range len(b) + 1 {
			mustRead(t, what, b[:n])
		}
	}
	for n, want := range map[int]api.Errno{0: api.OK, 1: api.ErrShort, 2: api.ErrShort, 16: api.ErrShort, 17: api.ErrShort, 18: api.OK, 19: api.ErrShort, 35: api.ErrShort, 36: api.ErrState, 37: api.ErrShort} {
		if got, err := blocks.Read(make([]byte, n)); err != want || err != api.OK && got != nil {
			t.Errorf("Read of %d zeros: %v, %d, want %d", n, got, err, want)
		}
	}
}

// TestReadOfEachIndex: each that two octets have, ahead of another block and
// behind it.
func TestReadOfEachIndex(t *testing.T) {
	for i := range 1 << 16 {
		one := []api.Block{{Index: i, Data: text(i)}}
		mustRead(t, "one index", wantOctets(one))
		mustRead(t, "an index behind another one", wantOctets(append(content(500), one...)))
		mustRead(t, "an index ahead of another one", wantOctets(append(one, block(500))))
	}
}

func TestReadOfNoContents(t *testing.T) {
	for what, l := range map[string][]api.Block{
		"a fall":                 content(5, 4),
		"a fall at the end":      content(1, 2, 3, 0),
		"a fall at the front":    content(3, 1, 2),
		"twice":                  content(5, 5),
		"twice at the end":       content(1, 2, 2),
		"2^10":                   content(1024),
		"2^10 behind all":        append(span(0, maxIndex), block(maxIndex)),
		"all, and the last":      append(span(0, maxIndex), block(maxIndex-1)),
		"2^16 - 1":               content(1<<16 - 1),
		"two contents":           append(span(0, maxIndex), span(0, maxIndex)...),
		"2^10 ahead of an index": content(maxIndex, 3),
	} {
		b := wantOctets(l)
		mustRead(t, what, b)
		if got, err := blocks.Read(b); err != api.ErrState || got != nil {
			t.Errorf("Read of %s: %d blocks, %d, want ErrState", what, len(got), err)
		}
		for _, n := range []int{1, 2, 17} {
			if got, err := blocks.Read(b[:len(b)-n]); err != api.ErrShort || got != nil {
				t.Errorf("Read of %s, less %d octets: %d blocks, %d, want ErrShort", what, n, len(got), err)
			}
			if got, err := blocks.Read(append(slices.Clone(b), make([]byte, n)...)); err != api.ErrShort || got != nil {
				t.Errorf("Read of %s, and %d octets: %d blocks, %d, want ErrShort", what, n, len(got), err)
			}
		}
	}
	for n, want := range map[int]api.Errno{18 << 16: api.ErrState, 18<<16 - 1: api.ErrShort, 18<<16 + 1: api.ErrShort} {
		if got, err := blocks.Read(make([]byte, n)); err != want || got != nil {
			t.Errorf("Read of %d octets: %d blocks, %d, want %d", n, len(got), err, want)
		}
	}
}

// TestContentsComeBack: P11.4, of many contents, and of their octets when some
// are turned.
func TestContentsComeBack(t *testing.T) {
	r := rand.New(rand.NewSource(114))
	for range 400 {
		l := some(r)
		b, err := blocks.Octets(l)
		if err != api.OK || !bytes.Equal(b, wantOctets(l)) {
			t.Fatalf("Octets of a content: %d octets, %d", len(b), err)
		}
		back, err := blocks.Read(b)
		if err != api.OK || !blocks.Same(back, l) || !slices.Equal(back, l) {
			t.Fatalf("a content does not come back: %d", err)
		}
		for range min(len(b), 5) {
			turned := slices.Clone(b)
			turned[r.Intn(len(b))] ^= 1 << r.Intn(8)
			mustRead(t, "octets, one of them turned", turned)
			at := r.Intn(len(l)) * 18
			turned = slices.Clone(b)
			turned[at+1] ^= 1 << r.Intn(8)
			mustRead(t, "octets, an index of them turned", turned)
		}
	}
}
