package check_test

import (
	"hash/crc32"
	"math/bits"
	"strings"
	"testing"

	"scoria/api"
	"scoria/check"
)

// texts are bytes of many lengths: those about the length of a sum, and longer ones.
func texts() []string {
	l := []string{"", "\x00", "\xff", "a", "ab", "abc", "abcd", "abcde", "123456789", "scoria", strings.Repeat("\x00", 32), strings.Repeat("\xff", 128)}
	for _, size := range []int{1, 3, 4, 5, 31, 64, 100} {
		l = append(l, scatter(size, uint32(size)))
	}
	return l
}

// scatter is bytes without a pattern, the same ones each time.
func scatter(size int, seed uint32) string {
	b := make([]byte, size)
	x := seed*2654435761 + 1
	for i := range b {
		x = x*1664525 + 1013904223
		b[i] = byte(x >> 24)
	}
	return string(b)
}

// mirrored is the sum, worked out by the library's CRC, which goes the lowest bit of each byte first.
func mirrored(s string) uint32 {
	b := []byte(s)
	for i := range b {
		b[i] = bits.Reverse8(b[i])
	}
	return bits.Reverse32(crc32.ChecksumIEEE(b))
}

// behind is a sum's bytes, the highest first.
func behind(sum uint32) string {
	return string([]byte{byte(sum >> 24), byte(sum >> 16), byte(sum >> 8), byte(sum)})
}

// turned is bytes in which bits are turned: those of the pattern, its highest bit at the place that is told (of each byte the highest first).
func turned(s string, at int, pattern uint32) string {
	b := []byte(s)
	for i := range 32 {
		if place := at + i; pattern<<i>>31 == 1 && place < 8*len(b) {
			b[place/8] ^= 0x80 >> (place % 8)
		}
	}
	return string(b)
}

// 2.1: the sum of known texts, and of others as the library has it.
func TestSum(t *testing.T) {
	for _, x := range []struct {
		s    string
		want uint32
	}{
		{"", 0},
		{"123456789", 0xfc891918},
		{"\x00", 0xb1f7404b},
		{"\x00\x00\x00\x00", 0x38fb2284},
		{"\xff\xff\xff\xff", 0xffffffff},
	} {
		if c := check.Sum(x.s); c != x.want {
			t.Errorf("Sum(%x): %08x; want %08x", x.s, c, x.want)
		}
	}
	for _, s := range texts() {
		if c := check.Sum(s); c != mirrored(s) {
			t.Errorf("Sum(%x): %08x; want %08x", s, c, mirrored(s))
		}
	}
}

// 2.1: wherever a text is cut, the sum of its beginning and More of its end make its sum.
func TestMoreGoesOn(t *testing.T) {
	for _, s := range texts() {
		for cut := range len(s) + 1 {
			if c := check.More(check.Sum(s[:cut]), s[cut:]); c != mirrored(s) {
				t.Errorf("More(Sum(%x), %x): %08x; want %08x", s[:cut], s[cut:], c, mirrored(s))
			}
		}
		if c := check.More(check.Sum(s), ""); c != check.Sum(s) {
			t.Errorf("More(Sum(%x), nothing): %08x", s, c)
		}
	}
	one := uint32(0)
	for _, b := range []byte("123456789") {
		one = check.More(one, string([]byte{b}))
	}
	if one != 0xfc891918 {
		t.Errorf("More byte by byte: %08x", one)
	}
}

// 2.1: sealed bytes have their sum behind them, the highest byte first.
func TestSeal(t *testing.T) {
	if s := check.Seal(""); s != "\x00\x00\x00\x00" {
		t.Errorf("Seal of no bytes: %x", s)
	}
	if s := check.Seal("123456789"); s != "123456789\xfc\x89\x19\x18" {
		t.Errorf("Seal(123456789): %x", s)
	}
	for _, s := range texts() {
		if got := check.Seal(s); got != s+behind(mirrored(s)) {
			t.Errorf("Seal(%x): %x", s, got)
		}
	}
}

// 2.2: fewer than 4 bytes are short, whatever they are; 4 bytes are those of the sum of no bytes, or do not fit.
func TestOpenOfFewBytes(t *testing.T) {
	for _, s := range []string{"", "\x00", "\x00\x00", "\x00\x00\x00", "\xff\xff\xff", "abc"} {
		if b, e := check.Open(s); b != "" || e != api.ErrShort {
			t.Errorf("Open(%x): %x, %d; want ErrShort", s, b, e)
		}
	}
	if b, e := check.Open("\x00\x00\x00\x00"); b != "" || e != api.OK {
		t.Errorf("Open of the sum of no bytes: %x, %d", b, e)
	}
	for _, s := range []string{"\x00\x00\x00\x01", "\x80\x00\x00\x00", "\xff\xff\xff\xff", "abcd"} {
		if b, e := check.Open(s); b != "" || e != api.ErrSum {
			t.Errorf("Open(%x): %x, %d; want ErrSum", s, b, e)
		}
	}
	if b, e := check.Open("\x00\xb1\xf7\x40\x4b"); b != "\x00" || e != api.OK {
		t.Errorf("Open of five bytes: %x, %d", b, e)
	}
}

// 2.2: a sum that does not fit is refused, also one in another order, and beside it nothing is answered.
func TestOpenRefusesWrongSums(t *testing.T) {
	for _, s := range []string{"123456789\x18\x19\x89\xfc", "123456789\xfc\x89\x19", "123456789\xfc\x89\x19\x18\x00", "\x00123456789\xfc\x89\x19\x18", "23456789\xfc\x89\x19\x18", "123456789\x03\x76\xe6\xe7", "123456789\x00\x00\x00\x00"} {
		if b, e := check.Open(s); b != "" || e != api.ErrSum {
			t.Errorf("Open(%x): %x, %d; want ErrSum", s, b, e)
		}
	}
}

// 2.3: what was sealed is opened, also when it was sealed more than once.
func TestWhatWasSealedIsOpened(t *testing.T) {
	for _, s := range texts() {
		if b, e := check.Open(check.Seal(s)); b != s || e != api.OK {
			t.Errorf("Open(Seal(%x)): %x, %d", s, b, e)
		}
		if b, e := check.Open(check.Seal(check.Seal(s))); b != check.Seal(s) || e != api.OK {
			t.Errorf("Open(Seal(Seal(%x))): %x, %d", s, b, e)
		}
	}
}

// patterns are bits that are turned within 32: one, two, all, and some without a pattern; each has its highest bit.
func patterns() []uint32 {
	l := []uint32{1 << 31, 3 << 30, 0xffffffff, 0x80000001, 0x04c11db7 | 1<<31}
	x := uint32(1)
	for i := range 31 {
		x = x*1664525 + 1013904223
		l = append(l, 1<<31|1<<i, x|1<<31)
	}
	return l
}

// 2.3: sealed bytes of which bits within 32 side by side are turned are refused, wherever these stand, also across bytes and across the sum's beginning.
func TestTurnedBitsAreRefused(t *testing.T) {
	for _, s := range texts() {
		sealed := check.Seal(s)
		for at := range 8 * len(sealed) {
			for _, pattern := range patterns() {
				spoilt := turned(sealed, at, pattern)
				if b, e := check.Open(spoilt); b != "" || e != api.ErrSum {
					t.Fatalf("Open of the sealed %x with %08x turned at the bit %d: %x, %d; want ErrSum", s, pattern, at, b, e)
				}
			}
		}
	}
}

// 2.3: the sums of three texts of one length, put together, are the sum of the texts put together.
func TestSumsOfThreeGoTogether(t *testing.T) {
	for _, size := range []int{0, 1, 4, 9, 32, 100} {
		for seed := range uint32(8) {
			a, b, c := scatter(size, seed), scatter(size, seed+100), scatter(size, seed+200)
			together := make([]byte, size)
			for i := range together {
				together[i] = a[i] ^ b[i] ^ c[i]
			}
			if sum := check.Sum(string(together)); sum != check.Sum(a)^check.Sum(b)^check.Sum(c) {
				t.Errorf("sum of %x: %08x; want %08x", together, sum, check.Sum(a)^check.Sum(b)^check.Sum(c))
			}
		}
	}
}
