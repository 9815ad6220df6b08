// Package octets is layer 1: see shared/doc/01-octets.md.
package octets

import (
	"iter"

	"godown/api"
)

const (
	maxSize   = 8         // octets of the widest number
	maxNumber = 1<<62 - 1 // the greatest number that is read
	digits    = "0123456789abcdef"
)

// Put writes the lowest 8 times size bits of n, the highest octet first. A
// size below 0 counts as 0, one above 8 as 8.
func Put(n int, size int) []byte {
	size = min(max(size, 0), maxSize)
	out := make([]byte, size)
	rest := uint64(n)
	for i := size - 1; i >= 0; i-- {
		out[i] = byte(rest)
		rest >>= 8
	}
	return out
}

// Number reads what Put writes of a number from 0 to 2^62 - 1. The errors:
// ErrShort, ErrLong, ErrRange.
func Number(b []byte) (int, api.Errno) {
	if len(b) == 0 {
		return 0, api.ErrShort
	}
	if len(b) > maxSize {
		return 0, api.ErrLong
	}
	var n uint64 // 8 octets fill it: none is lost ahead of the comparison
	for _, o := range b {
		n = n<<8 | uint64(o)
	}
	if n > maxNumber {
		return 0, api.ErrRange
	}
	return int(n), api.OK
}

// Cut answers the first n octets and the rest. The errors: ErrRange, ErrShort.
func Cut(b []byte, n int) ([]byte, []byte, api.Errno) {
	if n < 0 {
		return nil, nil, api.ErrRange
	}
	if n > len(b) {
		return nil, nil, api.ErrShort
	}
	return Join(b[:n]), Join(b[n:]), api.OK
}

// Hex writes two small hexadecimal digits an octet.
func Hex(b []byte) string {
	text := make([]byte, 0, 2*len(b))
	for _, o := range b {
		text = append(text, digits[o>>4], digits[o&15])
	}
	return string(text)
}

// Unhex reads what Hex writes. The errors: ErrShort, ErrSyntax.
func Unhex(s string) ([]byte, api.Errno) {
	if len(s)%2 != 0 {
		return nil, api.ErrShort
	}
	out := make([]byte, 0, len(s)/2)
	for first, second := range pairs(s) {
		high, highOK := digitValue(first)
		low, lowOK := digitValue(second)
		if !highOK || !lowOK {
			return nil, api.ErrSyntax
		}
		out = append(out, high<<4|low)
	}
	return out, api.OK
}

// Join lays all lists one behind the other, in new memory.
func Join(l ...[]byte) []byte {
	total := 0
	for part := range parts(l...) {
		total += len(part)
	}
	out := make([]byte, 0, total)
	for part := range parts(l...) {
		out = append(out, part...)
	}
	return out
}

// parts hands out the lists that have octets, in their order.
func parts(l ...[]byte) iter.Seq[[]byte] {
	return func(yield func([]byte) bool) {
		for _, part := range l {
			if len(part) > 0 && !yield(part) {
				return
			}
		}
	}
}

// pairs hands out the octets of s two by two; s has an even number of them.
func pairs(s string) iter.Seq2[byte, byte] {
	return func(yield func(byte, byte) bool) {
		for i := 0; i+1 < len(s); i += 2 {
			if !yield(s[i], s[i+1]) {
				return
			}
		}
	}
}

// digitValue is what a small hexadecimal digit stands for; false: c is none.
func digitValue(c byte) (byte, bool) {
	switch {
	case '0' <= c && c <= '9':
		return c - '0', true
	case 'a' <= c && c <= 'f':
		return c - 'a' + 10, true
	}
	return 0, false
}
