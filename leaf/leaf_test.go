package leaf_test

import (
	"math"
	"slices"
	"strings"
	"testing"

	"scoria/api"
	"scoria/leaf"
)

// The bounds, as the document has them.
const (
	sectorBound = 16777216
	pageBound   = 2048
)

func zero(from, n int) api.Ext {
	return api.Ext{From: from, N: n, Kind: api.ExtZero}
}

func run(from, n, at int) api.Ext {
	return api.Ext{From: from, N: n, Kind: api.ExtRun, At: at}
}

// zeros are so many single sectors with holes between them.
func zeros(count int) []api.Ext {
	var l []api.Ext
	for i := range count {
		l = append(l, zero(2*i, 1))
	}
	return l
}

// kids are so many kids, whose pages fall.
func kids(count int) []api.Kid {
	var l []api.Kid
	for i := range count {
		l = append(l, api.Kid{Key: 5 * i, At: 300 - i})
	}
	return l
}

// extRow and kidRow lay rows byte by byte, of any numbers.
func extRow(from, n, kind, at int) string {
	return string([]byte{byte(from), byte(from >> 8), byte(from >> 16), byte(n), byte(n >> 8), byte(n >> 16), byte(n >> 24), byte(kind), byte(at), byte(at >> 8)})
}

func kidRow(key, at int) string {
	return string([]byte{byte(key), byte(key >> 8), byte(key >> 16), byte(at), byte(at >> 8)})
}

// rows are bytes of a node: how many it says there are, and rows.
func rows(count int, rows ...string) string {
	return string([]byte{byte(count)}) + strings.Join(rows, "")
}

func leafBytes(l []api.Ext) string {
	var all []string
	for _, e := range l {
		all = append(all, extRow(e.From, e.N, e.Kind, e.At))
	}
	return rows(len(l), all...)
}

func innerBytes(l []api.Kid) string {
	var all []string
	for _, k := range l {
		all = append(all, kidRow(k.Key, k.At))
	}
	return rows(len(l), all...)
}

// goodLeaves are extents of leaves, of 1 to 8 and at the edges of each number.
func goodLeaves() [][]api.Ext {
	l := [][]api.Ext{
		{run(3, 2, 7)},
		{zero(0, sectorBound)},
		{zero(sectorBound-1, 1)},
		{run(sectorBound-1, 1, pageBound-1)},
		{run(0, pageBound, 0)},
		{run(0, 1, pageBound-1), run(1, 1, 0), zero(2, 1), run(3, 1, 1)},
		{zero(0, 255), run(255, 256, 255), zero(511, 65535), run(66046, 1, 256), zero(66047, sectorBound-66047)},
	}
	for count := 1; count <= 8; count++ {
		l = append(l, zeros(count))
	}
	return l
}

// badLeaves are extents that are no leaf's, each by why.
func badLeaves() map[string][]api.Ext {
	l := map[string][]api.Ext{
		"none":                     {},
		"nine":                     zeros(9),
		"a hundred":                zeros(100),
		"256, as a byte none":      zeros(256),
		"257, as a byte one":       zeros(257),
		"a hole":                   {{From: 0, N: 1}},
		"no kind":                  {{From: 0, N: 1, Kind: 3}},
		"a kind, as a byte a zero": {{From: 0, N: 1, Kind: 257}},
		"a kind below 0":           {{From: 0, N: 1, Kind: -255}},
		"a zero in a page":         {{From: 0, N: 1, Kind: api.ExtZero, At: 1}},
		"no sectors":               {zero(0, 0)},
		"sectors below none":       {zero(0, -1)},
		"ahead of the first":       {zero(-1, 1)},
		"beyond the last":          {zero(sectorBound-1, 2)},
		"all and one":              {zero(0, sectorBound+1)},
		"a sector, as bytes 0":     {zero(sectorBound, 1)},
		"a page below 0":           {run(0, 1, -1)},
		"beyond the last page":     {run(0, 1, pageBound)},
		"pages beyond the last":    {run(0, 2, pageBound-1)},
		"the greatest numbers":     {run(math.MaxInt, math.MaxInt, math.MaxInt)},
		"two that are alike":       {zero(3, 2), zero(3, 2)},
		"two in the other order":   {zero(5, 1), zero(3, 1)},
		"two of one sector":        {run(3, 3, 7), zero(5, 1)},
		"zeros that go together":   {zero(3, 2), zero(5, 1)},
		"runs that go together":    {run(3, 2, 7), run(5, 1, 9)},
		"the last ones go so":      {zero(0, 1), run(3, 2, 7), run(5, 1, 9)},
	}
	l["the eighth is none"] = append(zeros(7), zero(100, 0))
	return l
}

// goodInners are kids of inner nodes, of 2 to 8 and at the edges of each number.
func goodInners() [][]api.Kid {
	l := [][]api.Kid{
		{{Key: 0, At: 0}, {Key: 1, At: 1}},
		{{Key: 0, At: pageBound - 1}, {Key: sectorBound - 1, At: 0}},
		{{Key: sectorBound - 2, At: 5}, {Key: sectorBound - 1, At: pageBound - 1}},
		{{Key: 255, At: 255}, {Key: 256, At: 256}, {Key: 65535, At: 511}, {Key: 65536, At: 512}},
	}
	for count := 2; count <= 8; count++ {
		l = append(l, kids(count))
	}
	return l
}

// badInners are kids that are no inner node's, each by why.
func badInners() map[string][]api.Kid {
	return map[string][]api.Kid{
		"none":                    {},
		"one":                     kids(1),
		"nine":                    kids(9),
		"258, as a byte two":      kids(258),
		"a Key below 0":           {{Key: -1, At: 3}, {Key: 5, At: 4}},
		"the least Key":           {{Key: math.MinInt, At: 3}, {Key: 5, At: 4}},
		"a Key one beyond":        {{Key: 0, At: 3}, {Key: sectorBound, At: 4}},
		"a Key, as bytes 1":       {{Key: 0, At: 3}, {Key: sectorBound + 1, At: 4}},
		"the greatest Key":        {{Key: 0, At: 3}, {Key: math.MaxInt, At: 4}},
		"an At below 0":           {{Key: 0, At: -1}, {Key: 5, At: 4}},
		"the second At below 0":   {{Key: 0, At: 4}, {Key: 5, At: -1}},
		"the least At":            {{Key: 0, At: 3}, {Key: 5, At: math.MinInt}},
		"an At one beyond":        {{Key: 0, At: pageBound}, {Key: 5, At: 4}},
		"the second At beyond":    {{Key: 0, At: 4}, {Key: 5, At: pageBound}},
		"an At, as bytes 0":       {{Key: 0, At: 1 << 16}, {Key: 5, At: 4}},
		"the greatest At":         {{Key: 0, At: 3}, {Key: 5, At: math.MaxInt}},
		"Keys that are equal":     {{Key: 5, At: 3}, {Key: 5, At: 4}},
		"Keys of 0":               {{Key: 0, At: 3}, {Key: 0, At: 4}},
		"Keys that fall":          {{Key: 6, At: 3}, {Key: 5, At: 4}},
		"the last Key falls":      {{Key: 0, At: 3}, {Key: 9, At: 4}, {Key: 5, At: 5}},
		"two At that are alike":   {{Key: 0, At: 3}, {Key: 5, At: 3}},
		"first and last At alike": {{Key: 0, At: 3}, {Key: 5, At: 4}, {Key: 6, At: 5}, {Key: 7, At: 3}},
		"last ones' At alike":     {{Key: 0, At: 3}, {Key: 5, At: 4}, {Key: 6, At: 4}},
	}
}

// wrote looks at an answer of Leaf or Inner.
func wrote(t *testing.T, what any, got string, e api.Errno, want string) {
	t.Helper()
	if got != want || e != api.OK {
		t.Errorf("%v: % x, %d; want % x", what, got, e, want)
	}
	if len(got) > 100 {
		t.Errorf("%v: %d bytes", what, len(got))
	}
}

// 9.1: the chapter's example, and one of an inner node.
func TestExamples(t *testing.T) {
	s, e := leaf.Leaf([]api.Ext{run(3, 2, 7)})
	wrote(t, "a leaf", s, e, "\x01\x03\x00\x00\x02\x00\x00\x00\x02\x07\x00")
	s, e = leaf.Inner([]api.Kid{{Key: 1, At: 258}, {Key: 66051, At: 7}})
	wrote(t, "an inner node", s, e, "\x02\x01\x00\x00\x02\x01\x03\x02\x01\x07\x00")
}

// 9.1, 9.3: leaves are written byte for byte, and read; neither changes what it was handed.
func TestLeaves(t *testing.T) {
	for _, l := range goodLeaves() {
		was := slices.Clone(l)
		s, e := leaf.Leaf(l)
		wrote(t, l, s, e, leafBytes(l))
		got, e := leaf.ReadLeaf(s)
		if e != api.OK || !slices.Equal(got, l) || !slices.Equal(l, was) {
			t.Errorf("%v, now %v: read %v, %d", was, l, got, e)
		}
	}
}

// 9.1, 9.3: likewise inner nodes.
func TestInners(t *testing.T) {
	for _, l := range goodInners() {
		was := slices.Clone(l)
		s, e := leaf.Inner(l)
		wrote(t, l, s, e, innerBytes(l))
		got, e := leaf.ReadInner(s)
		if e != api.OK || !slices.Equal(got, l) || !slices.Equal(l, was) {
			t.Errorf("%v, now %v: read %v, %d", was, l, got, e)
		}
	}
}

// noLeaf and noInner look at an answer of bytes that are none's.
func noLeaf(t *testing.T, what string, s string) {
	t.Helper()
	if l, e := leaf.ReadLeaf(s); l != nil || e != api.ErrForm {
		t.Errorf("%s: ReadLeaf(% x): %v, %d", what, s, l, e)
	}
}

func noInner(t *testing.T, what string, s string) {
	t.Helper()
	if l, e := leaf.ReadInner(s); l != nil || e != api.ErrForm {
		t.Errorf("%s: ReadInner(% x): %v, %d", what, s, l, e)
	}
}

// 9.1: what may not be a leaf's is refused, as extents and as bytes.
func TestNoLeaves(t *testing.T) {
	for why, l := range badLeaves() {
		if s, e := leaf.Leaf(l); s != "" || e != api.ErrArg {
			t.Errorf("%s: % x, %d", why, s, e)
		}
	}
	if s, e := leaf.Leaf(nil); s != "" || e != api.ErrArg {
		t.Errorf("nil: % x, %d", s, e)
	}
	for why, s := range map[string]string{
		"none":                   rows(0),
		"nine":                   leafBytes(zeros(9)),
		"a hole":                 rows(1, extRow(0, 1, 0, 0)),
		"no kind":                rows(1, extRow(0, 1, 3, 0)),
		"the greatest kind":      rows(1, extRow(0, 1, 255, 0)),
		"a zero in a page":       rows(1, extRow(0, 1, 1, 1)),
		"no sectors":             rows(1, extRow(0, 0, 1, 0)),
		"beyond the last":        rows(1, extRow(sectorBound-1, 2, 1, 0)),
		"all and one":            rows(1, extRow(0, sectorBound+1, 1, 0)),
		"the most sectors":       rows(1, extRow(0, 1<<32-1, 1, 0)),
		"beyond the last page":   rows(1, extRow(0, 1, 2, pageBound)),
		"pages beyond the last":  rows(1, extRow(0, 2, 2, pageBound-1)),
		"the greatest page":      rows(1, extRow(0, 1, 2, 65535)),
		"two that are alike":     rows(2, extRow(3, 2, 1, 0), extRow(3, 2, 1, 0)),
		"two in the other order": rows(2, extRow(5, 1, 1, 0), extRow(3, 1, 1, 0)),
		"two of one sector":      rows(2, extRow(3, 3, 2, 7), extRow(5, 1, 1, 0)),
		"zeros that go together": rows(2, extRow(3, 2, 1, 0), extRow(5, 1, 1, 0)),
		"runs that go together":  rows(2, extRow(3, 2, 2, 7), extRow(5, 1, 2, 9)),
	} {
		noLeaf(t, why, s)
	}
}

// 9.1: what may not be an inner node's is refused, as kids and as bytes.
func TestNoInners(t *testing.T) {
	for why, l := range badInners() {
		if s, e := leaf.Inner(l); s != "" || e != api.ErrArg {
			t.Errorf("%s: % x, %d", why, s, e)
		}
	}
	if s, e := leaf.Inner(nil); s != "" || e != api.ErrArg {
		t.Errorf("nil: % x, %d", s, e)
	}
	for why, s := range map[string]string{
		"none":                  rows(0),
		"one":                   rows(1, kidRow(0, 3)),
		"nine":                  innerBytes(kids(9)),
		"an At one beyond":      rows(2, kidRow(0, pageBound), kidRow(5, 4)),
		"the second At beyond":  rows(2, kidRow(0, 4), kidRow(5, pageBound)),
		"the greatest At":       rows(2, kidRow(0, 3), kidRow(5, 65535)),
		"Keys that are equal":   rows(2, kidRow(5, 3), kidRow(5, 4)),
		"Keys that fall":        rows(2, kidRow(6, 3), kidRow(5, 4)),
		"the last Key falls":    rows(3, kidRow(0, 3), kidRow(9, 4), kidRow(5, 5)),
		"two At that are alike": rows(2, kidRow(0, 3), kidRow(5, 3)),
		"At alike, not beside":  rows(3, kidRow(0, 3), kidRow(5, 4), kidRow(6, 3)),
	} {
		noInner(t, why, s)
	}
}

// 9.1, 9.3: bytes that are cut off, go on, or say another count are none's.
func TestOtherLengths(t *testing.T) {
	noLeaf(t, "no bytes", "")
	noInner(t, "no bytes", "")
	for _, l := range goodLeaves() {
		otherLengths(t, leafBytes(l), noLeaf)
	}
	for _, l := range goodInners() {
		otherLengths(t, innerBytes(l), noInner)
	}
}

func otherLengths(t *testing.T, s string, none func(*testing.T, string, string)) {
	t.Helper()
	for at := range len(s) {
		none(t, "cut off", s[:at])
	}
	none(t, "one byte more", s+"\x00")
	none(t, "itself behind it", s+s)
	for count := range 256 {
		if byte(count) != s[0] {
			none(t, "another count", rows(count, s[1:]))
		}
	}
}

// 9.1: bytes of the other kind of node are none's: an extent has ten bytes, a kid five, so as many of both never have as many bytes.
func TestTheOtherKind(t *testing.T) {
	for _, l := range goodLeaves() {
		noInner(t, "a leaf", leafBytes(l))
	}
	for _, l := range goodInners() {
		noLeaf(t, "an inner node", innerBytes(l))
	}
}

// justWritten looks at bytes that may be some node's: what is read of them is written so.
func justWritten[T comparable](t *testing.T, s string, read func(string) ([]T, api.Errno), write func([]T) (string, api.Errno)) {
	t.Helper()
	l, e := read(s)
	if e == api.ErrForm && l == nil {
		return
	}
	again, e2 := write(l)
	if e != api.OK || e2 != api.OK || again != s {
		t.Errorf("% x: read %v, %d; written % x, %d", s, l, e, again, e2)
	}
}

// 9.3: with any one byte another one, what is read is just what is written.
func TestOneByteAnother(t *testing.T) {
	for _, l := range goodLeaves() {
		for s := range spoilt(leafBytes(l)) {
			justWritten(t, s, leaf.ReadLeaf, leaf.Leaf)
			justWritten(t, s, leaf.ReadInner, leaf.Inner)
		}
	}
	for _, l := range goodInners() {
		for s := range spoilt(innerBytes(l)) {
			justWritten(t, s, leaf.ReadInner, leaf.Inner)
			justWritten(t, s, leaf.ReadLeaf, leaf.Leaf)
		}
	}
}

// spoilt yields the bytes with each one byte turned into each other one.
func spoilt(s string) func(yield func(string) bool) {
	return func(yield func(string) bool) {
		for at := range len(s) {
			for b := range 256 {
				if !yield(s[:at] + string([]byte{byte(b)}) + s[at+1:]) {
					return
				}
			}
		}
	}
}

// 9.1: two answers of the same bytes share nothing.
func TestAnswersAreApart(t *testing.T) {
	s, _ := leaf.Leaf(zeros(8))
	a, _ := leaf.ReadLeaf(s)
	clear(a)
	if b, e := leaf.ReadLeaf(s); e != api.OK || !slices.Equal(b, zeros(8)) {
		t.Errorf("ReadLeaf: %v, %d", b, e)
	}
	s, _ = leaf.Inner(kids(8))
	c, _ := leaf.ReadInner(s)
	clear(c)
	if d, e := leaf.ReadInner(s); e != api.OK || !slices.Equal(d, kids(8)) {
		t.Errorf("ReadInner: %v, %d", d, e)
	}
}

// 9.2: the last kid whose Key is not above the sector; kids that do not rise likewise.
func TestUnder(t *testing.T) {
	rising := []api.Kid{{Key: 3, At: 9}, {Key: 5, At: 8}, {Key: 10, At: 7}}
	mixed := []api.Kid{{Key: 5, At: 1}, {Key: 9, At: 1}, {Key: 2, At: 1}, {Key: 9, At: 1}, {Key: 7, At: 1}}
	for _, x := range []struct {
		what   string
		l      []api.Kid
		sector int
		want   int
	}{
		{"no kids", nil, 5, 0},
		{"no kids, an empty list", []api.Kid{}, 0, 0},
		{"no kids, below 0", nil, -1, 0},
		{"the least", rising, math.MinInt, 0},
		{"below 0", rising, -1, 0},
		{"0", rising, 0, 0},
		{"one ahead of the first", rising, 2, 0},
		{"the first", rising, 3, 0},
		{"between", rising, 4, 0},
		{"the second", rising, 5, 1},
		{"behind the second", rising, 6, 1},
		{"one ahead of the last", rising, 9, 1},
		{"the last", rising, 10, 2},
		{"beyond the last", rising, 11, 2},
		{"the last sector", rising, sectorBound - 1, 2},
		{"far beyond", rising, math.MaxInt, 2},
		{"one kid, ahead", rising[1:2], 4, 0},
		{"one kid, behind", rising[1:2], 6, 0},
		{"mixed, below all", mixed, 1, 0},
		{"mixed, the least", mixed, 2, 2},
		{"mixed, a Key ahead of it", mixed, 5, 2},
		{"mixed, the last", mixed, 7, 4},
		{"mixed, above all", mixed, 9, 4},
		{"falling", []api.Kid{{Key: 9}, {Key: 5}, {Key: 3}}, 6, 2},
		{"falling, below all", []api.Kid{{Key: 9}, {Key: 5}, {Key: 3}}, 2, 0},
		{"equal", []api.Kid{{Key: 5}, {Key: 5}, {Key: 6}}, 5, 1},
		{"Keys that may not be", []api.Kid{{Key: math.MinInt}, {Key: -1}, {Key: math.MaxInt}}, -1, 1},
	} {
		was := slices.Clone(x.l)
		if got := leaf.Under(x.l, x.sector); got != x.want {
			t.Errorf("%s: %d; want %d", x.what, got, x.want)
		}
		if !slices.Equal(x.l, was) {
			t.Errorf("%s: %v became %v", x.what, was, x.l)
		}
	}
}

// 9.2: of more kids than a node has, at each sector.
func TestUnderOfMany(t *testing.T) {
	for count := range 20 {
		l := kids(count)
		for sector := range 5*count + 3 {
			want := max(min(sector/5, count-1), 0)
			if got := leaf.Under(l, sector); got != want {
				t.Errorf("%d kids, sector %d: %d; want %d", count, sector, got, want)
			}
		}
	}
}
