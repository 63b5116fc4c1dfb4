package field_test

import (
	"math"
	"slices"
	"strings"
	"testing"

	"scoria/api"
	"scoria/field"
)

// noWidths are numbers that are no width: those beside the bounds, and the ones with which a sum of places could wrap round.
var noWidths = []int{0, 9, -1, -8, 16, 64, math.MinInt, math.MaxInt}

// greatest is the greatest number that fits a width, worked out without a shift.
func greatest(wide int) uint64 {
	n := uint64(0)
	for range wide {
		n = n*256 + 255
	}
	return n
}

// fieldOf is a number's field, worked out by division.
func fieldOf(n uint64, wide int) string {
	var b []byte
	for range wide {
		b = append(b, byte(n%256))
		n /= 256
	}
	return string(b)
}

// samples are numbers that fit a width, with the least and the greatest.
func samples(wide int) []uint64 {
	top := greatest(wide)
	l := []uint64{0, 1, 0x7f, 0x80, 0xff, top / 2, top/2 + 1, top - 1, top}
	x := uint64(0x0807060504030201)
	for range 20 {
		l = append(l, x&top)
		x = x*6364136223846793005 + 1442695040888963407
	}
	return l
}

// 1.1: a number that fits has its bytes, the lowest first, at every width.
func TestPutLaysTheLowestByteFirst(t *testing.T) {
	for _, x := range []struct {
		n    uint64
		wide int
		want string
	}{
		{258, 2, "\x02\x01"},
		{0, 1, "\x00"},
		{255, 1, "\xff"},
		{0x030201, 3, "\x01\x02\x03"},
		{0x0807060504030201, 8, "\x01\x02\x03\x04\x05\x06\x07\x08"},
		{1, 8, "\x01\x00\x00\x00\x00\x00\x00\x00"},
		{math.MaxUint64, 8, "\xff\xff\xff\xff\xff\xff\xff\xff"},
	} {
		if s, e := field.Put(x.n, x.wide); s != x.want || e != api.OK {
			t.Errorf("Put(%#x, %d): %x, %d; want %x", x.n, x.wide, s, e, x.want)
		}
	}
	for wide := 1; wide <= 8; wide++ {
		for _, n := range samples(wide) {
			if s, e := field.Put(n, wide); s != fieldOf(n, wide) || e != api.OK {
				t.Errorf("Put(%#x, %d): %x, %d; want %x", n, wide, s, e, fieldOf(n, wide))
			}
		}
	}
}

// 1.1: a number one above the greatest of its width, and every greater one, is refused.
func TestPutRefusesNumbersThatDoNotFit(t *testing.T) {
	for wide := 1; wide <= 7; wide++ {
		for _, n := range []uint64{greatest(wide) + 1, greatest(wide) + 2, greatest(wide + 1), math.MaxUint64} {
			if s, e := field.Put(n, wide); s != "" || e != api.ErrLong {
				t.Errorf("Put(%#x, %d): %x, %d; want ErrLong", n, wide, s, e)
			}
		}
	}
}

// 1.1: what is no width is told ahead of a number that is too great.
func TestPutRefusesWhatIsNoWidth(t *testing.T) {
	for _, wide := range noWidths {
		for _, n := range []uint64{0, 1, math.MaxUint64} {
			if s, e := field.Put(n, wide); s != "" || e != api.ErrArg {
				t.Errorf("Put(%#x, %d): %x, %d; want ErrArg", n, wide, s, e)
			}
		}
	}
}

// 1.1: a field is read wherever it stands, also where it just ends in the bytes; one byte less is too short.
func TestGetReadsToTheLastByte(t *testing.T) {
	s := "\x01\x02\x03\x04\x05\x06\x07\x08\x09\x0a"
	for wide := 1; wide <= 8; wide++ {
		for at := 0; at <= len(s)+1; at++ {
			n, e := field.Get(s, at, wide)
			if at+wide > len(s) {
				if n != 0 || e != api.ErrShort {
					t.Errorf("Get(s, %d, %d): %#x, %d; want ErrShort", at, wide, n, e)
				}
				continue
			}
			if fieldOf(n, wide) != s[at:at+wide] || n > greatest(wide) || e != api.OK {
				t.Errorf("Get(s, %d, %d): %#x, %d", at, wide, n, e)
			}
		}
	}
	if n, e := field.Get("\x02\x01\x00", 0, 2); n != 258 || e != api.OK {
		t.Errorf("Get(02 01 00, 0, 2): %d, %d", n, e)
	}
	if n, e := field.Get("\xff\xff\xff\xff\xff\xff\xff\xff", 0, 8); n != math.MaxUint64 || e != api.OK {
		t.Errorf("Get of the greatest number: %d, %d", n, e)
	}
}

// 1.1: places beyond the bytes are short, however far; no sum of place and width wraps round.
func TestGetBeyondTheBytesIsShort(t *testing.T) {
	for _, s := range []string{"", "a", "abcdefgh"} {
		for _, at := range []int{len(s), len(s) + 1, math.MaxInt32, math.MaxInt - 8, math.MaxInt - 7, math.MaxInt} {
			for wide := 1; wide <= 8; wide++ {
				if n, e := field.Get(s, at, wide); n != 0 || e != api.ErrShort {
					t.Errorf("Get(%q, %d, %d): %d, %d; want ErrShort", s, at, wide, n, e)
				}
			}
		}
	}
}

// 1.1: no width, and a place below 0, are told ahead of bytes that end.
func TestGetRefusesWrongArguments(t *testing.T) {
	for _, s := range []string{"", "abcdefghij"} {
		for _, wide := range noWidths {
			for _, at := range []int{math.MinInt, -1, 0, 3, math.MaxInt} {
				if n, e := field.Get(s, at, wide); n != 0 || e != api.ErrArg {
					t.Errorf("Get(%q, %d, %d): %d, %d; want ErrArg", s, at, wide, n, e)
				}
			}
		}
		for _, at := range []int{-1, -8, math.MinInt, math.MinInt + 8} {
			for wide := 1; wide <= 8; wide++ {
				if n, e := field.Get(s, at, wide); n != 0 || e != api.ErrArg {
					t.Errorf("Get(%q, %d, %d): %d, %d; want ErrArg", s, at, wide, n, e)
				}
			}
		}
	}
}

// 1.2: a row has the fields one behind the other, by each one's own width.
func TestRowLaysFieldsInOrder(t *testing.T) {
	for _, x := range []struct {
		numbers []uint64
		widths  []int
		want    string
	}{
		{nil, nil, ""},
		{nil, []int{}, ""},
		{[]uint64{}, nil, ""},
		{[]uint64{1, 2}, []int{1, 2}, "\x01\x02\x00"},
		{[]uint64{2, 1}, []int{2, 1}, "\x02\x00\x01"},
		{[]uint64{255, 65535, 0}, []int{1, 2, 3}, "\xff\xff\xff\x00\x00\x00"},
		{[]uint64{math.MaxUint64, 7}, []int{8, 8}, "\xff\xff\xff\xff\xff\xff\xff\xff\x07\x00\x00\x00\x00\x00\x00\x00"},
	} {
		if s, e := field.Row(x.numbers, x.widths); s != x.want || e != api.OK {
			t.Errorf("Row(%d, %d): %x, %d; want %x", x.numbers, x.widths, s, e, x.want)
		}
	}
}

// 1.2: lists of unlike lengths and what is no width are told ahead of numbers that do not fit, wherever they stand.
func TestRowRefusesWrongLists(t *testing.T) {
	for _, x := range []struct {
		numbers []uint64
		widths  []int
		want    api.Errno
	}{
		{nil, []int{1}, api.ErrArg},
		{[]uint64{1}, nil, api.ErrArg},
		{[]uint64{1, 2}, []int{1}, api.ErrArg},
		{[]uint64{1}, []int{1, 2}, api.ErrArg},
		{[]uint64{256, 2}, []int{1}, api.ErrArg},
		{[]uint64{256}, []int{1, 1}, api.ErrArg},
		{[]uint64{256, 2}, []int{1, 0}, api.ErrArg},
		{[]uint64{256, 2}, []int{1, 9}, api.ErrArg},
		{[]uint64{1, 256, 2}, []int{1, 1, -1}, api.ErrArg},
		{[]uint64{1, 256}, []int{math.MinInt, 1}, api.ErrArg},
		{[]uint64{0}, []int{math.MaxInt}, api.ErrArg},
		{[]uint64{256}, []int{1}, api.ErrLong},
		{[]uint64{1, 2, 1 << 24}, []int{1, 2, 3}, api.ErrLong},
		{[]uint64{1 << 56, 1}, []int{7, 8}, api.ErrLong},
	} {
		if s, e := field.Row(x.numbers, x.widths); s != "" || e != x.want {
			t.Errorf("Row(%d, %d): %x, %d; want %d", x.numbers, x.widths, s, e, x.want)
		}
	}
}

// 1.2: a row's numbers are taken, and what stands behind it, also if that is nothing.
func TestTakeReadsARow(t *testing.T) {
	for _, x := range []struct {
		s       string
		widths  []int
		numbers []uint64
		rest    string
	}{
		{"", nil, nil, ""},
		{"xy", nil, nil, "xy"},
		{"xy", []int{}, nil, "xy"},
		{"\x01\x02\x00xy", []int{1, 2}, []uint64{1, 2}, "xy"},
		{"\x01\x02\x00", []int{1, 2}, []uint64{1, 2}, ""},
		{"\xff\xff\xff\xff\xff\xff\xff\xff\x01", []int{8, 1}, []uint64{math.MaxUint64, 1}, ""},
		{"\x01\x02\x03\x04\x05\x06", []int{3, 2}, []uint64{0x030201, 0x0504}, "\x06"},
	} {
		numbers, rest, e := field.Take(x.s, x.widths)
		if !slices.Equal(numbers, x.numbers) || rest != x.rest || e != api.OK {
			t.Errorf("Take(%x, %d): %d, %x, %d; want %d, %x", x.s, x.widths, numbers, rest, e, x.numbers, x.rest)
		}
	}
}

// 1.2: what is no width is told ahead of bytes that end, wherever it stands; beside an error nothing is taken.
func TestTakeRefusesWrongArguments(t *testing.T) {
	for _, x := range []struct {
		s      string
		widths []int
		want   api.Errno
	}{
		{"abc", []int{0}, api.ErrArg},
		{"abc", []int{1, 9}, api.ErrArg},
		{"abc", []int{1, -1, 1}, api.ErrArg},
		{"", []int{1, 0}, api.ErrArg},
		{"a", []int{8, math.MaxInt}, api.ErrArg},
		{"abc", []int{math.MinInt, 1}, api.ErrArg},
		{"", []int{1}, api.ErrShort},
		{"\x01\x02", []int{1, 2}, api.ErrShort},
		{"abcdefg", []int{8}, api.ErrShort},
		{"abcdefgh", []int{8, 1}, api.ErrShort},
		{"abcdefgh", []int{4, 8, 4}, api.ErrShort},
	} {
		numbers, rest, e := field.Take(x.s, x.widths)
		if len(numbers) != 0 || rest != "" || e != x.want {
			t.Errorf("Take(%x, %d): %d, %x, %d; want %d", x.s, x.widths, numbers, rest, e, x.want)
		}
	}
}

// 1.3: bytes are filled up to the size, by the byte that is handed in.
func TestFillMakesTheSize(t *testing.T) {
	for _, x := range []struct {
		s    string
		size int
		b    byte
		want string
	}{
		{"", 0, 'z', ""},
		{"", 1, 0, "\x00"},
		{"", 3, 0xff, "\xff\xff\xff"},
		{"ab", 2, 'z', "ab"},
		{"ab", 3, 'z', "abz"},
		{"ab", 4, 0x80, "ab\x80\x80"},
		{"\x00", 2, 0, "\x00\x00"},
		{"ab", 300, 'z', "ab" + strings.Repeat("z", 298)},
	} {
		if s, e := field.Fill(x.s, x.size, x.b); s != x.want || e != api.OK {
			t.Errorf("Fill(%q, %d, %d): %q, %d; want %q", x.s, x.size, x.b, s, e, x.want)
		}
	}
	for b := range 256 {
		if s, e := field.Fill("", 1, byte(b)); s != string([]byte{byte(b)}) || e != api.OK {
			t.Errorf("Fill of one byte %d: %x, %d", b, s, e)
		}
	}
}

// 1.3: a size below 0 and one below what is there are refused.
func TestFillRefusesWrongSizes(t *testing.T) {
	for _, x := range []struct {
		s    string
		size int
		want api.Errno
	}{
		{"", -1, api.ErrArg},
		{"ab", -1, api.ErrArg},
		{"ab", math.MinInt, api.ErrArg},
		{"a", 0, api.ErrLong},
		{"ab", 1, api.ErrLong},
		{strings.Repeat("a", 200), 199, api.ErrLong},
	} {
		if s, e := field.Fill(x.s, x.size, 'z'); s != "" || e != x.want {
			t.Errorf("Fill(%q, %d): %q, %d; want %d", x.s, x.size, s, e, x.want)
		}
	}
}

// R1: a size that no memory holds ends without a panic.
func TestFillEndsAtGreatSizes(t *testing.T) {
	for _, size := range []int{1 << 31, 1 << 40, math.MaxInt - 1, math.MaxInt} {
		if s, e := field.Fill("ab", size, 'z'); s != "" || e == api.OK {
			t.Errorf("Fill(ab, %d): %d bytes, %d", size, len(s), e)
		}
	}
}

// 1.4: what was put is got, wherever it stands.
func TestWhatWasPutIsGot(t *testing.T) {
	for wide := 1; wide <= 8; wide++ {
		for _, n := range samples(wide) {
			s, _ := field.Put(n, wide)
			for _, ahead := range []string{"", "x", "\xff\xff\xff"} {
				for _, behind := range []string{"", "y", "\xff\xff\xff\xff\xff\xff\xff\xff"} {
					if got, e := field.Get(ahead+s+behind, len(ahead), wide); got != n || e != api.OK {
						t.Errorf("Get(%x, %d, %d): %#x, %d; want %#x", ahead+s+behind, len(ahead), wide, got, e, n)
					}
				}
			}
		}
	}
}

// 1.4: what is taken, put in a row again, are the bytes that were taken.
func TestWhatIsTakenMakesTheSameRow(t *testing.T) {
	for _, s := range []string{"", "\x00", strings.Repeat("\x00", 40), strings.Repeat("\xff", 40), "scoria keeps namespaces of sectors on flash"} {
		for _, widths := range [][]int{nil, {1}, {8}, {1, 2, 4, 6, 1}, {5, 1}, {3, 4, 1, 2}, {8, 7, 6, 5, 4, 3, 2, 1}} {
			numbers, rest, e := field.Take(s, widths)
			if e == api.ErrShort {
				continue
			}
			row, e2 := field.Row(numbers, widths)
			if e != api.OK || e2 != api.OK || row+rest != s {
				t.Errorf("Take(%x, %d): %d, %x, %d; their row: %x, %d", s, widths, numbers, rest, e, row, e2)
			}
		}
	}
}

// R3: lists that are handed in stay as they are, and those that are answered are new each time.
func TestListsAreNeitherChangedNorShared(t *testing.T) {
	numbers, widths := []uint64{1, 2, 3}, []int{1, 2, 3}
	if _, e := field.Row(numbers, widths); e != api.OK {
		t.Errorf("Row: %d", e)
	}
	first, _, _ := field.Take("\x01\x02\x00\x03\x00\x00", widths)
	first[0], first[1], first[2] = 7, 8, 9
	second, _, _ := field.Take("\x01\x02\x00\x03\x00\x00", widths)
	if !slices.Equal(second, []uint64{1, 2, 3}) {
		t.Errorf("Take after a change of what it answered: %d", second)
	}
	if !slices.Equal(numbers, []uint64{1, 2, 3}) || !slices.Equal(widths, []int{1, 2, 3}) {
		t.Errorf("arguments were changed: %d, %d", numbers, widths)
	}
}
