// Package check is layer 2: see shared/doc/02-check.md.
package check

import (
	"scoria/api"
)

// poly is the sum's polynomial, without its highest bit.
const poly = 0x04c11db7

// sumBytes is how many bytes a sum has behind the bytes that it is of.
const sumBytes = 4

// More is the sum of bytes that have a sum, and others behind them.
func More(sum uint32, s string) uint32 {
	// A sum has all bits turned in the end: turned back, the work goes on where it ended.
	c := ^sum
	for i := range len(s) {
		c = step(c ^ uint32(s[i])<<24)
	}
	return ^c
}

// step moves the eight bits of one byte through.
func step(c uint32) uint32 {
	for range 8 {
		high := c>>31 == 1
		c <<= 1
		if high {
			c ^= poly
		}
	}
	return c
}

// Sum is the sum of bytes.
func Sum(s string) uint32 {
	// 0 is the sum of no bytes: all bits 1, turned.
	return More(0, s)
}

// Seal is bytes with their sum.
func Seal(s string) string {
	return s + tail(Sum(s))
}

// tail is a sum's bytes, the highest first.
func tail(sum uint32) string {
	return string([]byte{byte(sum >> 24), byte(sum >> 16), byte(sum >> 8), byte(sum)})
}

// Open is sealed bytes without their sum.
func Open(s string) (string, api.Errno) {
	if len(s) < sumBytes {
		return "", api.ErrShort
	}
	body, end := s[:len(s)-sumBytes], s[len(s)-sumBytes:]
	if end != tail(Sum(body)) {
		return "", api.ErrSum
	}
	return body, api.OK
}
