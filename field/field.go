// Package field is layer 1: see shared/doc/01-field.md.
package field

import (
	"slices"
	"strings"

	"scoria/api"
)

// mostWide is the greatest width: a uint64 has no more bytes.
const mostWide = 8

// mostBytes bounds what Fill makes: beyond it nothing is promised, and a call is to end rather than to run out of memory.
const mostBytes = 1<<31 - 1

func noWidth(wide int) bool {
	return wide < 1 || wide > mostWide
}

// fits needs no case of its own for the width 8: a shift by 64 leaves 0.
func fits(n uint64, wide int) bool {
	return n>>(8*wide) == 0
}

// Put is a number's field.
func Put(n uint64, wide int) (string, api.Errno) {
	if noWidth(wide) {
		return "", api.ErrArg
	}
	if !fits(n, wide) {
		return "", api.ErrLong
	}
	return lay(n, wide), api.OK
}

// lay is a number's bytes: each width has those of the widths below it, and one more.
func lay(n uint64, wide int) string {
	var b [mostWide]byte
	switch wide {
	case 8:
		b[7] = byte(n >> 56)
		fallthrough
	case 7:
		b[6] = byte(n >> 48)
		fallthrough
	case 6:
		b[5] = byte(n >> 40)
		fallthrough
	case 5:
		b[4] = byte(n >> 32)
		fallthrough
	case 4:
		b[3] = byte(n >> 24)
		fallthrough
	case 3:
		b[2] = byte(n >> 16)
		fallthrough
	case 2:
		b[1] = byte(n >> 8)
		fallthrough
	case 1:
		b[0] = byte(n)
	}
	return string(b[:wide])
}

// Get is the number of a field.
func Get(s string, at, wide int) (uint64, api.Errno) {
	if noWidth(wide) || at < 0 {
		return 0, api.ErrArg
	}
	// Not at+wide > len(s): that sum could wrap round.
	if at > len(s)-wide {
		return 0, api.ErrShort
	}
	return number(s[at : at+wide]), api.OK
}

func number(bytes string) uint64 {
	var n uint64
	for i := range len(bytes) {
		n |= uint64(bytes[i]) << (8 * i)
	}
	return n
}

// Row is numbers as a row.
func Row(numbers []uint64, widths []int) (string, api.Errno) {
	// All widths are seen to ahead of any number: ErrArg comes before ErrLong.
	if len(numbers) != len(widths) || slices.ContainsFunc(widths, noWidth) {
		return "", api.ErrArg
	}
	var row strings.Builder
	for i, n := range numbers {
		bytes, e := Put(n, widths[i])
		if e != api.OK {
			return "", e
		}
		row.WriteString(bytes)
	}
	return row.String(), api.OK
}

// Take is the numbers of a row, and what stands behind it.
func Take(s string, widths []int) (numbers []uint64, rest string, e api.Errno) {
	// All widths are seen to ahead of the bytes: ErrArg comes before ErrShort.
	if slices.ContainsFunc(widths, noWidth) {
		return nil, "", api.ErrArg
	}
	at := 0
	for _, wide := range widths {
		n, e := Get(s, at, wide)
		if e != api.OK {
			return nil, "", e
		}
		numbers = append(numbers, n)
		at += wide
	}
	return numbers, s[at:], api.OK
}

// Fill is bytes with others behind.
func Fill(s string, size int, b byte) (string, api.Errno) {
	if size < 0 {
		return "", api.ErrArg
	}
	if len(s) > size || size > mostBytes {
		return "", api.ErrLong
	}
	return s + strings.Repeat(string([]byte{b}), size-len(s)), api.OK
}
