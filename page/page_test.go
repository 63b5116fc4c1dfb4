package page_test

import (
	"hash/crc32"
	"math"
	"math/bits"
	"strconv"
	"strings"
	"testing"

	"scoria/api"
	"scoria/page"
)

// kinds are all that a page can have; noKinds are others, those just beside them first.
var (
	kinds   = []int{api.PageData, api.PageLeaf, api.PageInner, api.PageRoot}
	noKinds = []int{0, 5, -1, 6, 255, 256, 257, 1 << 32, 1<<32 + 1, math.MinInt, math.MaxInt}
)

// part is one of a page's numbers: the greatest that it may be, and a way to set it.
type part struct {
	name string
	most int
	set  func(p *api.Page, n int)
}

func parts() []part {
	return []part{
		{"Space", 65535, func(p *api.Page, n int) { p.Space = n }},
		{"Key", 4294967295, func(p *api.Page, n int) { p.Key = n }},
		{"Seq", 281474976710655, func(p *api.Page, n int) { p.Seq = n }},
	}
}

// little is a number's bytes, the lowest first, worked out by division.
func little(n, wide int) string {
	var b []byte
	for range wide {
		b = append(b, byte(n%256))
		n /= 256
	}
	return string(b)
}

// sealed is bytes with their sum behind them, worked out by the library's CRC, which goes the lowest bit of each byte first.
func sealed(s string) string {
	b := []byte(s)
	for i := range b {
		b[i] = bits.Reverse8(b[i])
	}
	sum := bits.Reverse32(crc32.ChecksumIEEE(b))
	return s + string([]byte{byte(sum >> 24), byte(sum >> 16), byte(sum >> 8), byte(sum)})
}

// row is the row of a page that says it has so many bytes of a body.
func row(p api.Page, length int) string {
	return little(p.Kind, 1) + little(p.Space, 2) + little(p.Key, 4) + little(p.Seq, 6) + little(length, 1)
}

// bytesOf is what the bytes of a page are to be.
func bytesOf(p api.Page) string {
	return sealed("Sc" + row(p, len(p.Body)) + p.Body)
}

// samples are pages that may be: every kind, each number at both its ends and between, bodies of all lengths.
func samples() []api.Page {
	var l []api.Page
	for _, kind := range kinds {
		l = append(l,
			api.Page{Kind: kind},
			api.Page{Kind: kind, Space: 65535, Key: 4294967295, Seq: 281474976710655, Body: strings.Repeat("\xff", 100)},
			api.Page{Kind: kind, Space: 0x0201, Key: 0x06050403, Seq: 0x0c0b0a090807, Body: "Sc"})
		for _, x := range parts() {
			for _, n := range []int{1, 255, 256, x.most / 2, x.most - 1, x.most} {
				p := api.Page{Kind: kind, Space: 1, Key: 2, Seq: 3, Body: "ab"}
				x.set(&p, n)
				l = append(l, p)
			}
		}
	}
	for size := range 101 {
		l = append(l, api.Page{Kind: api.PageData, Space: 1, Key: size, Seq: 3, Body: strings.Repeat("\x00", size)})
	}
	return l
}

// refused are pages that may not be, each for one thing alone, by what that is.
func refused() map[string]api.Page {
	good := api.Page{Kind: api.PageLeaf, Space: 1, Key: 2, Seq: 3, Body: "ab"}
	l := map[string]api.Page{}
	for _, kind := range noKinds {
		p := good
		p.Kind = kind
		l["Kind "+strconv.Itoa(kind)] = p
	}
	for _, x := range parts() {
		for _, n := range []int{-1, -2, x.most + 1, x.most + 2, 1 << 48, 1<<62 + 1, math.MinInt, math.MinInt + 1, math.MaxInt} {
			p := good
			x.set(&p, n)
			l[x.name+" "+strconv.Itoa(n)] = p
		}
	}
	for _, size := range []int{101, 102, 112, 113, 128, 255, 256, 257, 100000} {
		p := good
		p.Body = strings.Repeat("b", size)
		l["Body "+strconv.Itoa(size)] = p
	}
	return l
}

// reads looks at what bytes say.
func reads(t *testing.T, what, s string, want api.Page, e api.Errno) {
	t.Helper()
	if p, got := page.Read(s); p != want || got != e {
		t.Errorf("%s: Read(%x): %#v, %d; want %#v, %d", what, s, p, got, want, e)
	}
}

// 5.1: the bytes of the chapter's example, and of a page whose numbers and body are all 0.
func TestWriteOfExamples(t *testing.T) {
	for _, x := range []struct {
		p    api.Page
		want string
	}{
		{api.Page{Kind: api.PageData, Space: 1, Key: 2, Seq: 3, Body: "ab"}, "Sc\x01\x01\x00\x02\x00\x00\x00\x03\x00\x00\x00\x00\x00\x02ab\xcc\x3a\x52\x2d"},
		{api.Page{Kind: api.PageRoot}, "Sc\x04\x00\x00\x00\x00\x00\x00\x00\x00\x00\x00\x00\x00\x00\xd9\xb3\x96\x80"},
	} {
		if s, e := page.Write(x.p); s != x.want || e != api.OK {
			t.Errorf("Write(%#v): %x, %d; want %x", x.p, s, e, x.want)
		}
		reads(t, "an example", x.want, x.p, api.OK)
	}
}

// 5.1: the bytes of each page that may be, as they are laid by hand; they are no more than a page of the array has.
func TestWriteLaysEachPart(t *testing.T) {
	for _, p := range samples() {
		s, e := page.Write(p)
		if s != bytesOf(p) || e != api.OK || len(s) > api.PageBytes {
			t.Errorf("Write(%#v): %x, %d; want %x", p, s, e, bytesOf(p))
		}
	}
}

// 5.1: a page that may not be has no bytes.
func TestWriteRefusesWhatMayNotBe(t *testing.T) {
	for what, p := range refused() {
		if s, e := page.Write(p); s != "" || e != api.ErrArg {
			t.Errorf("%s: Write: %x, %d; want ErrArg", what, s, e)
		}
	}
	if s, e := page.Write(api.Page{}); s != "" || e != api.ErrArg {
		t.Errorf("Write of a page of no kind: %x, %d; want ErrArg", s, e)
	}
}

// 5.1: fewer bytes than a sum has are short; four are the sum of none, which are no page's, or do not fit.
func TestReadOfFewBytes(t *testing.T) {
	for _, s := range []string{"", "S", "Sc", "Sc\x01", "\x00\x00\x00"} {
		reads(t, "few bytes", s, api.Page{}, api.ErrShort)
	}
	for _, s := range []string{"\x00\x00\x00\x00", sealed("S"), sealed("Sc")} {
		reads(t, "a sum that fits", s, api.Page{}, api.ErrForm)
	}
	for _, s := range []string{"\x00\x00\x00\x01", "Sc\x01\x01", "Sc\x01\x01\x00"} {
		reads(t, "a sum that does not fit", s, api.Page{}, api.ErrSum)
	}
}

// 5.1: a sum that does not fit is told ahead of a form that is wrong.
func TestReadTellsTheSumFirst(t *testing.T) {
	good := bytesOf(api.Page{Kind: api.PageData, Space: 1, Key: 2, Seq: 3, Body: "ab"})
	for _, s := range []string{
		"sc" + good[2:],
		"Sc\x00" + good[3:],
		good[:15] + "\x65" + good[16:],
		"Sc" + strings.Repeat("\xff", 300),
		strings.Repeat("\xff", 128),
	} {
		reads(t, "two things wrong", s, api.Page{}, api.ErrSum)
	}
}

// 5.1: sealed bytes whose kind is none are no page's.
func TestReadRefusesOtherKinds(t *testing.T) {
	for kind := range 256 {
		p := api.Page{Kind: kind, Space: 1, Key: 2, Seq: 3, Body: "ab"}
		if kind >= 1 && kind <= 4 {
			reads(t, "a kind", bytesOf(p), p, api.OK)
		} else {
			reads(t, "no kind", bytesOf(p), api.Page{}, api.ErrForm)
		}
	}
}

// 5.1: sealed bytes that say another length than the body has, or that have too long a body, are no page's.
func TestReadRefusesOtherLengths(t *testing.T) {
	p := api.Page{Kind: api.PageInner, Space: 1, Key: 2, Seq: 3}
	for _, size := range []int{0, 1, 2, 50, 99, 100, 101, 102, 128, 255, 256, 300} {
		p.Body = strings.Repeat("b", size)
		for length := range 256 {
			s := sealed("Sc" + row(p, length) + p.Body)
			if length == size && size <= 100 {
				reads(t, "a length", s, p, api.OK)
			} else {
				reads(t, "another length", s, api.Page{}, api.ErrForm)
			}
		}
	}
}

// 5.1: sealed bytes that begin otherwise than a page's are none.
func TestReadRefusesOtherBeginnings(t *testing.T) {
	p := api.Page{Kind: api.PageLeaf, Space: 1, Key: 2, Seq: 3, Body: "ab"}
	rest := row(p, 2) + p.Body
	for _, mark := range []string{"", "S", "c", "cS", "sc", "SC", "Sd", "Rc", "\x00\x00", "\xff\xff", "ScS", "ScSc", " Sc", "\x00Sc", "Sc\x00"} {
		reads(t, "another beginning", sealed(mark+rest), api.Page{}, api.ErrForm)
	}
	for b := range 256 {
		if b != 'S' {
			reads(t, "another first byte", sealed(string([]byte{byte(b)})+"c"+rest), api.Page{}, api.ErrForm)
		}
		if b != 'c' {
			reads(t, "another second byte", sealed("S"+string([]byte{byte(b)})+rest), api.Page{}, api.ErrForm)
		}
	}
}

// 5.1: bytes that are sealed after they were cut off, or had others put behind them, are no page's.
func TestReadRefusesOtherSizesThatAreSealed(t *testing.T) {
	for _, p := range []api.Page{{Kind: api.PageRoot}, {Kind: api.PageData, Space: 1, Key: 2, Seq: 3, Body: "ab"}} {
		s := bytesOf(p)
		inner := s[:len(s)-4]
		for cut := range len(inner) {
			reads(t, "cut off", sealed(inner[:cut]), api.Page{}, api.ErrForm)
		}
		for _, more := range []string{"\x00", "b", "\x00\x00\x00\x00", strings.Repeat("\x00", 100)} {
			reads(t, "others behind", sealed(inner+more), api.Page{}, api.ErrForm)
		}
		reads(t, "sealed twice", sealed(s), api.Page{}, api.ErrForm)
	}
}

// 5.3: what is written is read.
func TestWhatIsWrittenIsRead(t *testing.T) {
	for _, p := range samples() {
		s, e := page.Write(p)
		if e != api.OK {
			t.Errorf("Write(%#v): %d", p, e)
		}
		reads(t, "written", s, p, api.OK)
	}
}

// 5.3: what is read is just what is written: whatever is read of bytes, sealed or not, are that page's own bytes.
func TestWhatIsReadIsWritten(t *testing.T) {
	x, read := uint64(1), 0
	for range 20000 {
		b := []byte("Sc\x01\x00\x00\x00\x00\x00\x00\x00\x00\x00\x00\x00\x00\x02ab")
		for range 3 {
			x = x*6364136223846793005 + 1442695040888963407
			b[int(x>>33)%len(b)] = byte(x>>56) % 8
		}
		s := sealed(string(b))
		p, e := page.Read(s)
		if e != api.OK {
			continue
		}
		read++
		if again, e := page.Write(p); again != s || e != api.OK {
			t.Fatalf("Read(%x): %#v, whose bytes are %x, %d", s, p, again, e)
		}
	}
	if read == 0 {
		t.Errorf("nothing was read")
	}
}

// 5.3: bytes that are cut off at any place, or that have others behind them, are none.
func TestOtherSizesAreRefused(t *testing.T) {
	for _, p := range samples() {
		s := bytesOf(p)
		for cut := range len(s) {
			want := api.ErrSum
			if cut < 4 {
				want = api.ErrShort
			}
			reads(t, "cut off", s[:cut], api.Page{}, want)
		}
		for _, more := range []string{"\x00", "\xff", "x", s[:1], s, strings.Repeat("\x00", api.PageBytes-len(s))} {
			if more != "" {
				reads(t, "others behind", s+more, api.Page{}, api.ErrSum)
			}
		}
		reads(t, "others ahead", "\x00"+s, api.Page{}, api.ErrSum)
		reads(t, "cut off in front", s[1:], api.Page{}, api.ErrSum)
	}
}

// 5.3: bytes of which one bit or a few that stand side by side are turned are refused.
func TestTurnedBitsAreRefused(t *testing.T) {
	for _, p := range samples()[:40] {
		s := bytesOf(p)
		for at := range 8 * len(s) {
			for _, wide := range []int{1, 2, 7, 32} {
				b := []byte(s)
				for i := at; i < min(at+wide, 8*len(b)); i++ {
					b[i/8] ^= 0x80 >> (i % 8)
				}
				reads(t, "turned bits", string(b), api.Page{}, api.ErrSum)
			}
		}
	}
}

// R1: bytes far longer than a page's end in an answer.
func TestReadOfManyBytes(t *testing.T) {
	reads(t, "many bytes", sealed("Sc"+strings.Repeat("\x01", 1<<16)), api.Page{}, api.ErrForm)
	reads(t, "many bytes", strings.Repeat("Sc", 1<<16), api.Page{}, api.ErrSum)
}

// newer looks at how two pages stand, both ways.
func newer(t *testing.T, what string, a, b api.Page, ab, ba bool) {
	t.Helper()
	if page.Newer(a, b) != ab || page.Newer(b, a) != ba {
		t.Errorf("%s: Newer of %#v and %#v: %t, the other way %t; want %t, %t", what, a, b, page.Newer(a, b), page.Newer(b, a), ab, ba)
	}
}

// 5.2: of two pages of one Kind, Space and Key the one of the greater Seq is newer, whatever their bodies are.
func TestNewerBySeq(t *testing.T) {
	for _, kind := range kinds {
		a := api.Page{Kind: kind, Space: 65535, Key: 4294967295, Seq: 7, Body: "a"}
		newer(t, "the same", a, a, false, false)
		for _, seq := range []int{0, 1, 6} {
			b := a
			b.Seq = seq
			newer(t, "by Seq alone", a, b, true, false)
			b.Body = "another"
			newer(t, "by Seq, with another body", a, b, true, false)
		}
		b := a
		b.Body = "another"
		newer(t, "by Body alone", a, b, false, false)
		a.Seq, b.Seq = 281474976710655, 281474976710654
		newer(t, "the greatest Seq", a, b, true, false)
	}
	newer(t, "all at 0", api.Page{Kind: api.PageRoot, Seq: 1}, api.Page{Kind: api.PageRoot}, true, false)
}

// 5.2: of two pages that differ in Kind, Space or Key none is newer, whatever their Seqs are.
func TestNewerOfOthers(t *testing.T) {
	a := api.Page{Kind: api.PageLeaf, Space: 2, Key: 2, Seq: 7, Body: "a"}
	for _, seq := range []int{0, 6, 7, 8, 281474976710655} {
		for _, b := range []api.Page{
			{Kind: api.PageData, Space: 2, Key: 2, Body: "a"},
			{Kind: api.PageInner, Space: 2, Key: 2, Body: "a"},
			{Kind: api.PageRoot, Space: 2, Key: 2, Body: "a"},
			{Kind: api.PageLeaf, Space: 1, Key: 2, Body: "a"},
			{Kind: api.PageLeaf, Space: 3, Key: 2, Body: "a"},
			{Kind: api.PageLeaf, Space: 2, Key: 1, Body: "a"},
			{Kind: api.PageLeaf, Space: 2, Key: 3, Body: "a"},
			{Kind: api.PageLeaf, Space: 2, Key: 2 + 65536, Body: "a"},
		} {
			b.Seq = seq
			newer(t, "another subject", a, b, false, false)
		}
	}
}

// 5.2: of pages that may not be none is newer, also beside one that has all else in common.
func TestNewerOfPagesThatMayNotBe(t *testing.T) {
	for what, bad := range refused() {
		newer(t, what, bad, bad, false, false)
		for _, seq := range []int{0, 2, 4, 281474976710655} {
			good := api.Page{Kind: api.PageLeaf, Space: 1, Key: 2, Seq: seq, Body: "ab"}
			newer(t, what, good, bad, false, false)
			other := bad
			other.Seq = seq
			newer(t, what, bad, other, false, false)
		}
	}
	newer(t, "of no kind", api.Page{Seq: 1}, api.Page{}, false, false)
}

// 5.2: each kind has its name; what is no kind has the name of none.
func TestName(t *testing.T) {
	for kind, want := range map[int]string{1: "data", 2: "leaf", 3: "inner", 4: "root"} {
		if s := page.Name(kind); s != want {
			t.Errorf("Name(%d): %q; want %q", kind, s, want)
		}
	}
	for _, kind := range noKinds {
		if s := page.Name(kind); s != "?" {
			t.Errorf("Name(%d): %q; want ?", kind, s)
		}
	}
}
