// Package digit is layer 1: numbers and texts as bytes, each in one way alone (shared/doc/01-digit.md).
package digit

import (
	"math/bits"

	"mintage/api"
)

const (
	eight   = 8                            // the eight bytes of a number
	perByte = 7                            // bits of a number that a byte of its short form carries
	more    = 1 << perByte                 // what is added to each byte of a short form but the last one
	longest = (64 + perByte - 1) / perByte // bytes of the longest short form
	topByte = 1                            // all that is left of 64 bits for the last byte of a longest short form
)

// Put: P1.1.
func Put(n uint64) string {
	var b [longest]byte
	size := Size(n)
	for i := range size {
		b[i] = byte(n) | more
		n >>= perByte
	}
	b[size-1] -= more
	return string(b[:size])
}

// Size: P1.1.
func Size(n uint64) int {
	// 0 has a byte too, as if it had one bit.
	return (bits.Len64(n|1) + perByte - 1) / perByte
}

// Take: P1.2.
func Take(s string) (n uint64, size int, e api.Errno) {
	for i := range longest {
		if i == len(s) {
			return 0, 0, api.ErrShort
		}
		n |= uint64(s[i]&(more-1)) << (perByte * i)
		if s[i] < more {
			if !endsShort(i, s[i]) {
				return 0, 0, api.ErrBytes
			}
			return n, i + 1, api.OK
		}
	}
	return 0, 0, api.ErrBytes
}

// endsShort: a last byte 0 behind others would give its number a second short form; one that is too great for the last place would lose bits.
func endsShort(i int, last byte) bool {
	if i == longest-1 {
		return last == topByte
	}
	return i == 0 || last != 0
}

// Eight: P1.3.
func Eight(n uint64) string {
	var b [eight]byte
	for i := range eight {
		b[eight-1-i] = byte(n)
		n >>= 8
	}
	return string(b[:])
}

// TakeEight: P1.3.
func TakeEight(s string) (uint64, api.Errno) {
	if len(s) < eight {
		return 0, api.ErrShort
	}
	var n uint64
	for i := range eight {
		n = n<<8 | uint64(s[i])
	}
	return n, api.OK
}

// PutText: P1.4.
func PutText(s string) string { return Put(uint64(len(s))) + s }

// TakeText: P1.4.
func TakeText(s string, most int) (text string, size int, e api.Errno) {
	n, at, e := Take(s)
	if e != api.OK {
		return "", 0, e
	}
	if most < 0 || n > uint64(most) {
		return "", 0, api.ErrLong
	}
	if n > uint64(len(s)-at) {
		return "", 0, api.ErrShort
	}
	size = at + int(n)
	return s[at:size], size, api.OK
}
