package store_test

import (
	"math"
	"slices"
	"strings"
	"testing"

	"scoria/api"
	"scoria/fault"
	"scoria/nand"
	"scoria/page"
	"scoria/store"
)

// blocks and pages of the arrays that most tests use: the spare is 2.
const (
	blocks = api.MinBlocks
	pages  = api.MinPages
)

// mostSeq is the greatest sequence number.
const mostSeq = 281474976710655

// ends are numbers that are no page and no block of any array.
var ends = []int{-1, -8, 2048, math.MinInt, math.MaxInt}

func fresh(t *testing.T) *nand.Nand {
	t.Helper()
	return of(t, api.Geometry{Blocks: blocks, Pages: pages})
}

func of(t *testing.T, g api.Geometry) *nand.Nand {
	t.Helper()
	n, err := nand.New(g)
	if err != nil {
		t.Fatalf("New(%v): %v", g, err)
	}
	return n
}

func open(t *testing.T, n *nand.Nand) *store.Store {
	t.Helper()
	s, err := store.Open(n)
	if s == nil || err != nil {
		t.Fatalf("Open: %v, %v", s, err)
	}
	return s
}

func freshStore(t *testing.T) (*store.Store, *nand.Nand) {
	t.Helper()
	n := fresh(t)
	return open(t, n), n
}

// is looks at an error: nil for OK, else the number, wrapped once.
func is(t *testing.T, what string, err error, op string, at int, want api.Errno) {
	t.Helper()
	if want == api.OK {
		if err != nil {
			t.Errorf("%s: %v; want no error", what, err)
		}
		return
	}
	f, ok := err.(*fault.Fault)
	if !ok || f.Step != (api.Step{Op: op, At: at}) || f.Err != error(want) {
		t.Errorf("%s: %v; want %s %d: %d", what, err, op, at, want)
	}
}

func data(key int) api.Page {
	return api.Page{Kind: api.PageData, Space: 1, Key: key, Body: "body"}
}

func bytesOf(t *testing.T, p api.Page) string {
	t.Helper()
	s, e := page.Write(p)
	if e != api.OK {
		t.Fatalf("page.Write(%+v): %d", p, e)
	}
	return s
}

// appends looks at where a page is put, or why it is not.
func appends(t *testing.T, s *store.Store, p api.Page, at int, want api.Errno) {
	t.Helper()
	got, err := s.Append(p)
	is(t, "Append", err, "append", p.Key, want)
	if got != at {
		t.Errorf("Append: %d; want %d", got, at)
	}
}

// fill puts so many pages.
func fill(t *testing.T, s *store.Store, n int) {
	t.Helper()
	for range n {
		if at, err := s.Append(data(7)); err != nil {
			t.Fatalf("Append: %d, %v", at, err)
		}
	}
}

func reads(t *testing.T, s *store.Store, at int, p api.Page, want api.Errno) {
	t.Helper()
	got, err := s.Read(at)
	is(t, "Read", err, "read", at, want)
	if got != p {
		t.Errorf("Read(%d): %+v; want %+v", at, got, p)
	}
}

func erases(t *testing.T, s *store.Store, block int, want api.Errno) {
	t.Helper()
	is(t, "Erase", s.Erase(block), "erase", block, want)
}

// plan lays mishaps for the next operations, one behind the other; 0 is none.
func plan(n *nand.Nand, kinds ...int) {
	var l []api.Mishap
	for i, kind := range kinds {
		l = append(l, api.Mishap{At: i + 1, Kind: kind, Keep: 3, Junk: "junk"})
	}
	n.Plan(l)
}

// letters are the states of a store's blocks: . free, o open, # full, x bad.
func letters(s *store.Store) string {
	var text strings.Builder
	for _, b := range s.Table() {
		text.WriteByte(".o#x"[b.State])
	}
	return text.String()
}

// stands looks at the blocks' states (those that are not told are free), at the next sequence number, and at what is counted.
func stands(t *testing.T, s *store.Store, states string, seq int) {
	t.Helper()
	states += strings.Repeat(".", s.Geometry().Blocks-len(states))
	if letters(s) != states || s.Seq() != seq {
		t.Errorf("states %s, Seq %d; want %s, %d", letters(s), s.Seq(), states, seq)
	}
	bad := strings.Count(states, "x")
	if s.Free() != strings.Count(states, ".") || s.Retired() != bad || s.Worn() != (bad > s.Geometry().Blocks/8) {
		t.Errorf("%s: Free %d, Retired %d, Worn %t", states, s.Free(), s.Retired(), s.Worn())
	}
}

// tell looks at what is told of each block; of those that are not told, 0.
func tell(t *testing.T, s *store.Store, what string, of func(api.Block) int, want []int) {
	t.Helper()
	want = append(want, make([]int, s.Geometry().Blocks-len(want))...)
	var got []int
	for _, b := range s.Table() {
		got = append(got, of(b))
	}
	if !slices.Equal(got, want) {
		t.Errorf("%s: %v; want %v", what, got, want)
	}
}

// valid looks at how many of each block's pages are needed.
func valid(t *testing.T, s *store.Store, want ...int) {
	t.Helper()
	tell(t, s, "Valid", func(b api.Block) int { return b.Valid }, want)
}

// worn looks at how often each block was erased.
func worn(t *testing.T, s *store.Store, want ...int) {
	t.Helper()
	tell(t, s, "Worn", func(b api.Block) int { return b.Worn }, want)
}

// program programs a page of an array with what a page is there, behind the store's back.
func program(t *testing.T, n *nand.Nand, at int, p api.Page) {
	t.Helper()
	if err := n.Program(at, bytesOf(t, p)); err != nil {
		t.Fatalf("Program(%d): %v", at, err)
	}
}

// withSeq is an array with one page of a sequence number in its last block.
func withSeq(t *testing.T, seq int) *nand.Nand {
	t.Helper()
	n := fresh(t)
	p := data(0)
	p.Seq = seq
	program(t, n, (blocks-1)*pages, p)
	return n
}

// 11.1: no store of a nil array, nor of one that is down.
func TestOpenRefuses(t *testing.T) {
	s, err := store.Open(nil)
	is(t, "Open", err, "open", 0, api.ErrArg)
	if s != nil {
		t.Error("a store of nil")
	}
	n := fresh(t)
	plan(n, api.PowerLoss)
	n.Erase(3)
	s, err = store.Open(n)
	is(t, "Open", err, "open", 0, api.ErrDown)
	if s != nil {
		t.Error("a store of an array that is down")
	}
	n.Up()
	stands(t, open(t, n), "...#", 0)
}

// 11.1: of fresh arrays, of several geometries, all is free.
func TestOpenFresh(t *testing.T) {
	for _, g := range []api.Geometry{{Blocks: 16, Pages: 8}, {Blocks: 16, Pages: 32}, {Blocks: 64, Pages: 8}, {Blocks: 64, Pages: 32}, {Blocks: 23, Pages: 11}} {
		n := of(t, g)
		s := open(t, n)
		stands(t, s, "", 0)
		valid(t, s)
		worn(t, s)
		if s.Geometry() != g || len(s.Table()) != g.Blocks || n.Ops() != 0 {
			t.Errorf("%v: Geometry %v, %d blocks, %d operations", g, s.Geometry(), len(s.Table()), n.Ops())
		}
	}
}

// 11.1: the state of each block, by what the array says of it.
func TestOpenStates(t *testing.T) {
	n := fresh(t)
	for at := range pages {
		program(t, n, at, data(at)) // 0: all pages are programmed
	}
	program(t, n, 1*pages, data(1)) // 1: one is
	n.Program(2*pages, "no page")   // 2: one that says nothing
	program(t, n, 3*pages, data(3)) // 3: erased, twice
	n.Erase(3)
	n.Erase(3)
	program(t, n, 4*pages, data(4)) // 4: bad, with a page that stands
	plan(n, api.ProgramFail)
	n.Program(4*pages+1, "x")
	plan(n, api.EraseFail)
	n.Erase(5) // 5: bad and blank
	n.Plan([]api.Mishap{{At: 1, Kind: api.PowerLoss, Keep: 1, Junk: "x"}})
	n.Erase(6) // 6: torn by an erase, its pages are not blank
	n.Up()
	n.Plan([]api.Mishap{{At: 1, Kind: api.PowerLoss}})
	n.Program(7*pages, "x") // 7: torn by a program, a page of no bytes
	n.Up()
	s := open(t, n)
	stands(t, s, "###.xx##", 1)
	valid(t, s)
	worn(t, s, 0, 0, 0, 2)
}

// 11.1: the next number is one above the greatest, wherever that stands, of the pages that can be read.
func TestOpenSeq(t *testing.T) {
	n := fresh(t)
	for i, seq := range []int{7, 300, 12} {
		p := data(i)
		p.Seq = seq
		program(t, n, (9-i)*pages, p)
	}
	torn := data(3)
	torn.Seq = 5000
	n.Program(9*pages+1, bytesOf(t, torn)[:20])
	stands(t, open(t, n), ".......###", 301)
	bad := data(4)
	bad.Seq = 400
	program(t, n, 12*pages, bad)
	plan(n, api.ProgramFail)
	n.Program(12*pages+1, bytesOf(t, torn))
	stands(t, open(t, n), ".......###..x", 401)
	// A program that fails leaves a page that can be read, if all of its bytes are kept.
	n.Plan([]api.Mishap{{At: 1, Kind: api.ProgramFail, Keep: 128}})
	n.Program(0, bytesOf(t, torn))
	stands(t, open(t, n), "x......###..x", 5001)
	stands(t, open(t, withSeq(t, 0)), "...............#", 1)
	stands(t, open(t, withSeq(t, mostSeq)), "...............#", mostSeq+1)
}

// 11.1, 11.4: no block is open behind Open, and what was needed is not known any more.
func TestOpenAnew(t *testing.T) {
	s, n := freshStore(t)
	fill(t, s, pages+2)
	s.Need([]int{0, 1, 8})
	stands(t, s, "#o", 10)
	valid(t, s, 2, 1)
	o := open(t, n)
	stands(t, o, "##", 10)
	valid(t, o)
	appends(t, o, data(1), 2*pages, api.OK)
	stands(t, o, "##o", 11)
	// What the one learned, the other one was not told.
	stands(t, s, "#o", 10)
	valid(t, s, 2, 1)
}

// 11.3: what a page says, or why it can't be read.
func TestRead(t *testing.T) {
	s, n := freshStore(t)
	long := api.Page{Kind: api.PageRoot, Space: api.MaxSpace, Key: api.MaxKey, Body: strings.Repeat("\xff", api.MaxBody)}
	appends(t, s, long, 0, api.OK)
	appends(t, s, data(3), 1, api.OK)
	reads(t, s, 0, long, api.OK)
	want := data(3)
	want.Seq = 1
	reads(t, s, 1, want, api.OK)
	reads(t, s, 2, api.Page{}, api.ErrBlank)
	reads(t, s, blocks*pages-1, api.Page{}, api.ErrBlank)
	for _, at := range append(ends, blocks*pages) {
		reads(t, s, at, api.Page{}, api.ErrArg)
	}
	spoilt := data(0)
	n.Program(2, "abc")
	reads(t, s, 2, api.Page{}, api.ErrShort)
	n.Program(3, bytesOf(t, spoilt)[1:])
	reads(t, s, 3, api.Page{}, api.ErrSum)
	n.Program(4, "\x00\x00\x00\x00")
	reads(t, s, 4, api.Page{}, api.ErrForm)
	n.Program(5, "")
	reads(t, s, 5, api.Page{}, api.ErrShort)
	plan(n, api.EraseFail, api.PowerLoss)
	n.Erase(0)
	reads(t, s, 0, long, api.OK) // of a bad block, too
	n.Erase(1)
	for _, at := range []int{0, 2, 3, 9, -1, blocks * pages} {
		reads(t, s, at, api.Page{}, api.ErrDown)
	}
}

// 11.3: a block is erased just if it is full, and nothing in it is needed.
func TestErase(t *testing.T) {
	s, _ := freshStore(t)
	fill(t, s, 2*pages+1)
	s.Need([]int{pages + 3})
	for _, block := range append(ends, blocks) {
		erases(t, s, block, api.ErrArg)
	}
	erases(t, s, 1, api.ErrArg) // needed
	erases(t, s, 2, api.ErrArg) // open
	erases(t, s, 3, api.ErrArg) // free
	stands(t, s, "##o", 17)
	erases(t, s, 0, api.OK)
	stands(t, s, ".#o", 17)
	worn(t, s, 1)
	reads(t, s, 0, api.Page{}, api.ErrBlank)
	erases(t, s, 0, api.ErrArg) // it is free now
	s.Need(nil)
	erases(t, s, 1, api.OK)
	stands(t, s, "..o", 17)
	worn(t, s, 1, 1)
	fill(t, s, pages-1)
	stands(t, s, "..o", 24)
	erases(t, s, 2, api.ErrArg) // open, though it has no page left
	s.Seal()
	erases(t, s, 2, api.OK)
	stands(t, s, "", 24)
	worn(t, s, 1, 1, 1)
}

// 11.3: a block that can't be erased is bad, without an error; its pages can be read.
func TestEraseFails(t *testing.T) {
	s, n := freshStore(t)
	fill(t, s, 3*pages)
	s.Seal()
	plan(n, api.EraseFail)
	erases(t, s, 1, api.OK)
	stands(t, s, "#x#", 24)
	worn(t, s)
	p := data(7)
	p.Seq = pages
	reads(t, s, pages, p, api.OK)
	erases(t, s, 1, api.ErrArg)
	plan(n, api.EraseFail, api.EraseFail)
	erases(t, s, 0, api.OK)
	stands(t, s, "xx#", 24)
	erases(t, s, 2, api.OK)
	stands(t, s, "xxx", 24) // worn out: that is no error of Erase
	stands(t, open(t, n), "xxx", 24)
}

// 11.3: a mishap of programs does nothing to an erase.
func TestEraseWithOtherMishap(t *testing.T) {
	s, n := freshStore(t)
	fill(t, s, pages)
	s.Seal()
	plan(n, api.ProgramFail)
	erases(t, s, 0, api.OK)
	stands(t, s, "", 8)
	worn(t, s, 1)
}

// 11.3: a block that the array knows as bad, and the store does not, is bad from its Erase on.
func TestEraseOfBadBlock(t *testing.T) {
	s, n := freshStore(t)
	fill(t, s, pages)
	s.Seal()
	plan(n, api.EraseFail)
	n.Erase(0)
	stands(t, s, "#", 8)
	erases(t, s, 0, api.OK)
	stands(t, s, "x", 8)
}

// 11.3: with the power lost a block stays full, whether its pages are spoilt or not.
func TestEraseLosesPower(t *testing.T) {
	for _, keep := range []int{0, 1} {
		s, n := freshStore(t)
		fill(t, s, pages)
		s.Seal()
		n.Plan([]api.Mishap{{At: 1, Kind: api.PowerLoss, Keep: keep, Junk: "junk"}})
		erases(t, s, 0, api.ErrDown)
		stands(t, s, "#", 8)
		erases(t, s, 0, api.ErrDown)
		erases(t, s, 1, api.ErrArg) // ahead of ErrDown
		erases(t, s, -1, api.ErrArg)
		stands(t, s, "#", 8)
		worn(t, s)
		n.Up()
		found, err := s.Scan()
		if len(found) != pages*(1-keep) || err != nil {
			t.Errorf("Keep %d: Scan: %d pages, %v", keep, len(found), err)
		}
		stands(t, open(t, n), "#", 8*(1-keep))
		erases(t, s, 0, api.OK)
		stands(t, s, "", 8)
		worn(t, s, 1)
	}
}

// 11.4: of each block, how many of the pages that are named stand in it, as it was told last.
func TestNeed(t *testing.T) {
	s, n := freshStore(t)
	fill(t, s, pages+1)
	valid(t, s)
	named := []int{0, 7, 7, 8, 15, 16, -1, -8, 128, 127, math.MinInt, math.MaxInt}
	s.Need(named)
	valid(t, s, 3, 2, 1, 0, 0, 0, 0, 0, 0, 0, 0, 0, 0, 0, 0, 1)
	clear(named) // it is not kept
	valid(t, s, 3, 2, 1, 0, 0, 0, 0, 0, 0, 0, 0, 0, 0, 0, 0, 1)
	stands(t, s, "#o", 9)
	s.Need([]int{9})
	valid(t, s, 0, 1)
	s.Need([]int{128})
	valid(t, s)
	s.Need([]int{1})
	valid(t, s, 1)
	s.Need(nil)
	valid(t, s)
	// It stays beside all that is done, also of blocks that are bad, and is told of an array that is down.
	plan(n, api.ProgramFail, 0, api.PowerLoss)
	s.Need([]int{2, 10, 11, 24})
	fill(t, s, 1)
	appends(t, s, data(1), 0, api.ErrDown)
	valid(t, s, 1, 2, 0, 1)
	stands(t, s, "#xo", 11)
	s.Need([]int{8})
	valid(t, s, 0, 1)
}

// 11.4: the open block is full, if there is one.
func TestSeal(t *testing.T) {
	s, n := freshStore(t)
	s.Seal()
	stands(t, s, "", 0)
	fill(t, s, 1)
	s.Seal()
	stands(t, s, "#", 1)
	s.Seal()
	stands(t, s, "#", 1)
	appends(t, s, data(0), pages, api.OK)
	fill(t, s, pages-1)
	stands(t, s, "#o", 9)
	plan(n, api.PowerLoss)
	n.Erase(5)
	s.Seal()
	stands(t, s, "##", 9)
	n.Up()
	appends(t, s, data(0), 2*pages, api.OK)
	stands(t, s, "##o", 10)
}

// 11.4: the pages that can be read, as they stand: those of bad blocks, too.
func TestScan(t *testing.T) {
	s, n := freshStore(t)
	scans(t, s)
	fill(t, s, pages+2)
	n.Program(pages+2, "no page")
	plan(n, api.ProgramFail)
	fill(t, s, 1)
	want := []int{0, 1, 2, 3, 4, 5, 6, 7, 8, 9, 16}
	scans(t, s, want...)
	scans(t, open(t, n), want...)
	erases(t, s, 0, api.OK)
	scans(t, s, 8, 9, 16)
	s.Seal()
	scans(t, s, 8, 9, 16)
	plan(n, api.PowerLoss)
	erases(t, s, 2, api.ErrDown)
	found, err := s.Scan()
	is(t, "Scan", err, "scan", 0, api.ErrDown)
	if len(found) != 0 {
		t.Errorf("Scan: %v", found)
	}
}

// scans looks at where the pages of a Scan stand, and that each is what a Read says.
func scans(t *testing.T, s *store.Store, want ...int) {
	t.Helper()
	found, err := s.Scan()
	is(t, "Scan", err, "scan", 0, api.OK)
	var got []int
	for _, f := range found {
		got = append(got, f.At)
		reads(t, s, f.At, f.P, api.OK)
	}
	if !slices.Equal(got, want) {
		t.Errorf("Scan: %v; want %v", got, want)
	}
}

// 11.4: what is answered shares no memory with what is kept, or with another answer.
func TestAnswersAreNew(t *testing.T) {
	s, _ := freshStore(t)
	fill(t, s, 3)
	table := s.Table()
	clear(table)
	table = append(table[:0], api.Block{State: api.BlockBad, Valid: 9, Worn: 9})
	stands(t, s, "o", 3)
	valid(t, s)
	worn(t, s)
	found, _ := s.Scan()
	clear(found)
	scans(t, s, 0, 1, 2)
	if table[0].State != api.BlockBad {
		t.Error("the table was changed")
	}
}

// 11.4: a nil store: ErrArg, nothing, 0; it is worn out.
func TestNilStore(t *testing.T) {
	var s *store.Store
	for _, at := range append(ends, 0, 1) {
		reads(t, s, at, api.Page{}, api.ErrArg)
		erases(t, s, at, api.ErrArg)
		appends(t, s, api.Page{Key: at}, 0, api.ErrArg)
	}
	appends(t, s, data(5), 0, api.ErrArg)
	s.Need([]int{0})
	s.Seal()
	found, err := s.Scan()
	is(t, "Scan", err, "scan", 0, api.ErrArg)
	if len(found) != 0 || len(s.Table()) != 0 || s.Free() != 0 || s.Retired() != 0 || !s.Worn() || s.Seq() != 0 || s.Geometry() != (api.Geometry{}) {
		t.Errorf("nil: %v, %v, Free %d, Retired %d, Worn %t, Seq %d, Geometry %v", found, s.Table(), s.Free(), s.Retired(), s.Worn(), s.Seq(), s.Geometry())
	}
}
