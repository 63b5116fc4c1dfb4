package store_test

import (
	"math"
	"strings"
	"testing"

	"scoria/api"
	"scoria/nand"
	"scoria/store"
)

// 11.2: the chapter's example.
func TestAppendExample(t *testing.T) {
	s, n := freshStore(t)
	appends(t, s, data(0), 0, api.OK)
	appends(t, s, data(1), 1, api.OK)
	for at := range 2 {
		p := data(at)
		p.Seq = at
		reads(t, s, at, p, api.OK)
	}
	plan(n, api.ProgramFail)
	appends(t, s, data(2), 8, api.OK)
	stands(t, s, "xo", 3)
	p := data(2)
	p.Seq = 2 // the same one in both blocks
	reads(t, s, 8, p, api.OK)
}

// 11.2: whatever Seq a page is handed in with, it stands with the next one; it is not changed in what was handed in.
func TestAppendSetsSeq(t *testing.T) {
	s, _ := freshStore(t)
	for i, seq := range []int{99, -1, mostSeq, mostSeq + 1, math.MinInt, math.MaxInt} {
		p := data(i)
		p.Seq = seq
		appends(t, s, p, i, api.OK)
		p.Seq = i
		reads(t, s, i, p, api.OK)
	}
}

// 11.2: pages at the ends of what may be.
func TestAppendKinds(t *testing.T) {
	s, _ := freshStore(t)
	for i, p := range []api.Page{
		{Kind: api.PageData, Body: strings.Repeat("x", api.MaxBody)},
		{Kind: api.PageLeaf, Space: api.MaxSpace},
		{Kind: api.PageInner, Key: api.MaxKey},
		{Kind: api.PageRoot},
	} {
		appends(t, s, p, i, api.OK)
		p.Seq = i
		reads(t, s, i, p, api.OK)
	}
}

// wrongPages are pages that may not be, each for one thing.
func wrongPages() []api.Page {
	return []api.Page{
		{},
		{Kind: 5},
		{Kind: -1},
		{Kind: api.PageData, Space: -1},
		{Kind: api.PageData, Space: api.MaxSpace + 1},
		{Kind: api.PageData, Key: -1},
		{Kind: api.PageData, Key: api.MaxKey + 1},
		{Kind: api.PageData, Key: math.MinInt},
		{Kind: api.PageData, Body: strings.Repeat("x", api.MaxBody+1)},
		{Kind: 0, Key: 4, Seq: mostSeq + 1},
	}
}

// refuses looks at an Append of pages that may not be, and that nothing is changed by it.
func refuses(t *testing.T, s *store.Store, n *nand.Nand) {
	t.Helper()
	states, seq, ops := letters(s), s.Seq(), n.Ops()
	for _, p := range wrongPages() {
		appends(t, s, p, 0, api.ErrArg)
	}
	stands(t, s, states, seq)
	if n.Ops() != ops {
		t.Errorf("%d operations; want %d", n.Ops(), ops)
	}
}

// 11.2: pages that may not be, of a store in each state: ErrArg ahead of all others.
func TestAppendRefusesPages(t *testing.T) {
	s, n := freshStore(t)
	refuses(t, s, n)
	fill(t, s, pages)
	refuses(t, s, n) // the open block has no page left, and stays open
	stands(t, s, "o", 8)
	plan(n, api.PowerLoss)
	n.Erase(9)
	refuses(t, s, n)
	n = withSeq(t, mostSeq)
	refuses(t, open(t, n), n)
	s, n = wornOut(t)
	refuses(t, s, n)
}

// wornOut is a store with one bad block more than the spare, by programs that failed.
func wornOut(t *testing.T) (*store.Store, *nand.Nand) {
	t.Helper()
	s, n := freshStore(t)
	plan(n, api.ProgramFail, api.ProgramFail, api.ProgramFail)
	appends(t, s, data(6), 0, api.ErrWorn)
	stands(t, s, "xxx", 1)
	return s, n
}

// 11.2: an open block is full from the Append on that finds no page left in it.
func TestAppendOpensBlocks(t *testing.T) {
	s, _ := freshStore(t)
	fill(t, s, 1)
	stands(t, s, "o", 1)
	fill(t, s, pages-2)
	stands(t, s, "o", 7)
	appends(t, s, data(1), 7, api.OK)
	stands(t, s, "o", 8)
	appends(t, s, data(1), 8, api.OK)
	stands(t, s, "#o", 9)
	fill(t, s, (blocks-1)*pages-1)
	stands(t, s, strings.Repeat("#", blocks-1)+"o", blocks*pages)
}

// 11.2: of the free blocks the one that was erased the least is opened, of several the first.
func TestAppendPicks(t *testing.T) {
	n := fresh(t)
	for block, times := range []int{2, 1, 3, 1} {
		for range times {
			n.Erase(block)
		}
	}
	for block := 4; block < blocks; block++ {
		for range 2 {
			n.Erase(block)
		}
	}
	s := open(t, n)
	for _, block := range []int{1, 3, 0, 4} {
		appends(t, s, data(1), block*pages, api.OK)
		s.Seal()
	}
	stands(t, s, "##.##", 4)
	erases(t, s, 1, api.OK)
	s.Need([]int{pages + 1}) // what is needed counts for nothing
	appends(t, s, data(1), pages, api.OK)
	stands(t, s, "#o.##", 5)
	worn(t, s, 2, 2, 3, 1, 2, 2, 2, 2, 2, 2, 2, 2, 2, 2, 2, 2)
	for _, block := range []int{5, 6, 7, 8, 9, 10, 11, 12, 13, 14, 15, 2} {
		s.Seal()
		appends(t, s, data(1), block*pages, api.OK)
	}
	s.Seal()
	appends(t, s, data(1), 0, api.ErrSpace)
}

// 11.2: without a free block: ErrSpace, ahead of ErrDown; the open block that has no page left is full then.
func TestAppendWithoutSpace(t *testing.T) {
	s, n := freshStore(t)
	fill(t, s, blocks*pages)
	full := strings.Repeat("#", blocks)
	stands(t, s, full[1:]+"o", 128)
	appends(t, s, data(1), 0, api.ErrSpace)
	stands(t, s, full, 128)
	appends(t, s, data(1), 0, api.ErrSpace)
	plan(n, api.PowerLoss)
	erases(t, s, 3, api.ErrDown)
	appends(t, s, data(1), 0, api.ErrSpace)
	stands(t, s, full, 128)
	n.Up()
	erases(t, s, 3, api.OK)
	appends(t, s, data(1), 3*pages, api.OK)
	stands(t, s, "###o"+full[4:], 129)
}

// 11.2: a block that goes bad with no other one free: ErrSpace.
func TestAppendFailsInLastBlock(t *testing.T) {
	s, n := freshStore(t)
	fill(t, s, blocks*pages-1)
	plan(n, api.ProgramFail)
	appends(t, s, data(1), 0, api.ErrSpace)
	stands(t, s, strings.Repeat("#", blocks-1)+"x", 128)
	scans(t, s, upTo(blocks*pages-1)...)
}

func upTo(n int) []int {
	var l []int
	for i := range n {
		l = append(l, i)
	}
	return l
}

// 11.2: programs that fail in several blocks one behind the other, up to the spare.
func TestAppendDoesWithoutBadBlocks(t *testing.T) {
	s, n := freshStore(t)
	fill(t, s, 3)
	plan(n, api.ProgramFail, api.ProgramFail)
	appends(t, s, data(5), 2*pages, api.OK)
	stands(t, s, "xxo", 4)
	p := data(5)
	p.Seq = 3
	reads(t, s, 2*pages, p, api.OK)
	scans(t, s, 0, 1, 2, 16)
	fill(t, s, pages-1)
	stands(t, s, "xxo", 11)
	fill(t, s, 1)
	stands(t, s, "xx#o", 12)
}

// 11.2: with one more the store is worn out, within an Append, and behind it; what stands is read, and erased.
func TestAppendWearsOut(t *testing.T) {
	s, n := freshStore(t)
	fill(t, s, pages+3)
	plan(n, 0, api.ProgramFail, api.ProgramFail, api.ProgramFail)
	fill(t, s, 1)
	appends(t, s, data(4), 0, api.ErrWorn)
	stands(t, s, "#xxx", 13)
	appends(t, s, data(4), 0, api.ErrWorn)
	stands(t, s, "#xxx", 13)
	scans(t, s, upTo(pages+4)...)
	erases(t, s, 0, api.OK)
	stands(t, s, ".xxx", 13)
	appends(t, s, data(4), 0, api.ErrWorn)
	o := open(t, n)
	// The page that failed was nowhere kept whole: its number is not known any more.
	stands(t, o, ".xxx", 12)
	appends(t, o, data(4), 0, api.ErrWorn)
	stands(t, o, ".xxx", 12)
}

// 11.2: a store is worn out by erases, too; the block that is open stays so, and nothing is put there.
func TestAppendBehindErasesThatFailed(t *testing.T) {
	s, n := freshStore(t)
	fill(t, s, 3*pages+1)
	plan(n, api.EraseFail, api.EraseFail, api.EraseFail)
	erases(t, s, 0, api.OK)
	erases(t, s, 1, api.OK)
	n.Plan(nil)
	appends(t, s, data(1), 3*pages+1, api.OK) // the spare is used up just
	plan(n, api.EraseFail)
	erases(t, s, 2, api.OK)
	appends(t, s, data(1), 0, api.ErrWorn)
	stands(t, s, "xxxo", 26)
	plan(n, api.PowerLoss)
	n.Erase(9)
	appends(t, s, data(1), 0, api.ErrWorn) // ahead of ErrDown
	stands(t, s, "xxxo", 26)
}

// 11.2: worn out counts ahead of a lack of space, which both hold here.
func TestAppendWornAheadOfSpace(t *testing.T) {
	s, n := freshStore(t)
	fill(t, s, blocks*pages)
	s.Seal()
	plan(n, api.EraseFail, api.EraseFail, api.EraseFail)
	for block := range 3 {
		erases(t, s, block, api.OK)
	}
	appends(t, s, data(1), 0, api.ErrWorn)
	// Within an Append likewise: the last free block is the one that wears it out.
	s, n = freshStore(t)
	fill(t, s, blocks*pages-1)
	plan(n, api.EraseFail, api.EraseFail, api.ProgramFail)
	erases(t, s, 0, api.OK)
	erases(t, s, 1, api.OK)
	appends(t, s, data(1), 0, api.ErrWorn)
	stands(t, s, "xx"+strings.Repeat("#", blocks-3)+"x", 128)
}

// 11.2: the spare is an eighth of the blocks, also of other geometries.
func TestAppendSpares(t *testing.T) {
	for _, most := range []int{16, 23, 24, 63, 64} {
		n := of(t, api.Geometry{Blocks: most, Pages: 9})
		s := open(t, n)
		var fail []int
		for range most / 8 {
			fail = append(fail, api.ProgramFail)
		}
		plan(n, fail...)
		appends(t, s, data(1), most/8*9, api.OK)
		stands(t, s, strings.Repeat("x", most/8)+"o", 1)
		plan(n, api.ProgramFail)
		appends(t, s, data(1), 0, api.ErrWorn)
		stands(t, s, strings.Repeat("x", most/8+1), 2)
	}
}

// 11.2: a page that a program that failed left whole is the same as the one that is put in another block.
func TestAppendBehindPageLeftWhole(t *testing.T) {
	s, n := freshStore(t)
	n.Plan([]api.Mishap{{At: 1, Kind: api.ProgramFail, Keep: api.PageBytes}})
	appends(t, s, data(3), pages, api.OK)
	scans(t, s, 0, pages)
	reads(t, s, 0, data(3), api.OK)
	reads(t, s, pages, data(3), api.OK)
	stands(t, s, "xo", 1)
	stands(t, open(t, n), "x#", 1)
}

// 11.2: with the power lost within it the block stays open, and the number is used up; ahead of it the number is not.
func TestAppendLosesPower(t *testing.T) {
	s, n := freshStore(t)
	fill(t, s, 2)
	plan(n, api.PowerLoss)
	appends(t, s, data(9), 0, api.ErrDown)
	stands(t, s, "o", 3)
	appends(t, s, data(9), 0, api.ErrDown)
	stands(t, s, "o", 3)
	n.Up()
	appends(t, s, data(9), 3, api.OK) // behind the page that is torn
	stands(t, s, "o", 4)
	scans(t, s, 0, 1, 3)
	o := open(t, n)
	stands(t, o, "#", 4)
	appends(t, o, data(9), pages, api.OK)
}

// 11.2: a block that is opened ahead of ErrDown stays open; the one ahead of it is full.
func TestAppendOpensAheadOfDown(t *testing.T) {
	s, n := freshStore(t)
	plan(n, api.PowerLoss)
	n.Erase(7)
	appends(t, s, data(9), 0, api.ErrDown)
	stands(t, s, "o", 0)
	n.Up()
	fill(t, s, pages)
	plan(n, api.PowerLoss)
	n.Erase(7)
	appends(t, s, data(9), 0, api.ErrDown)
	stands(t, s, "#o", 8)
	s.Seal()
	stands(t, s, "##", 8)
	n.Up()
	erases(t, s, 1, api.OK) // it is full, though nothing was programmed there
	worn(t, s, 0, 1)
	stands(t, s, "#", 8)
}

// 11.2: with the power lost in the block behind one that went bad.
func TestAppendLosesPowerBehindBadBlock(t *testing.T) {
	s, n := freshStore(t)
	plan(n, api.ProgramFail, api.PowerLoss)
	appends(t, s, data(9), 0, api.ErrDown)
	stands(t, s, "xo", 1)
	// What is lost may be there as a whole.
	n.Up()
	n.Plan([]api.Mishap{{At: 1, Kind: api.PowerLoss, Keep: api.PageBytes}})
	appends(t, s, data(9), 0, api.ErrDown)
	n.Up()
	scans(t, s, 9)
	stands(t, s, "xo", 2)
	stands(t, open(t, n), "x#", 2)
}

// 11.2: a block that the array knows as bad, and the store does not, takes no operation, and no number.
func TestAppendInBadBlock(t *testing.T) {
	s, n := freshStore(t)
	fill(t, s, 1)
	plan(n, api.EraseFail, api.EraseFail)
	n.Erase(0)
	n.Erase(1)
	ops := n.Ops()
	appends(t, s, data(1), 2*pages, api.OK)
	stands(t, s, "xxo", 2)
	if n.Ops() != ops+1 {
		t.Errorf("%d operations; want 1", n.Ops()-ops)
	}
	plan(n, api.EraseFail)
	n.Erase(2)
	appends(t, s, data(1), 0, api.ErrWorn)
	stands(t, s, "xxx", 2)
}

// 11.2: a number is used up just if the array counted an operation, also beside ErrSpace and ErrWorn.
func TestAppendUsesUpNumberOnce(t *testing.T) {
	s, n := freshStore(t)
	fill(t, s, (blocks-1)*pages)
	plan(n, api.EraseFail)
	n.Erase(blocks - 1)
	full := strings.Repeat("#", blocks-1)
	appends(t, s, data(1), 0, api.ErrSpace) // the last block was bad ahead of it
	stands(t, s, full+"x", 120)
	s, n = freshStore(t)
	fill(t, s, blocks*pages-pages/2)
	plan(n, api.ProgramFail)
	appends(t, s, data(1), 0, api.ErrSpace) // it went bad with it
	stands(t, s, full+"x", 125)
	appends(t, s, data(1), 0, api.ErrSpace)
	stands(t, s, full+"x", 125)
	// Two that were bad ahead of it, and one that goes bad with it, between them.
	s, n = freshStore(t)
	plan(n, api.EraseFail, api.EraseFail, api.ProgramFail)
	n.Erase(0)
	n.Erase(2)
	appends(t, s, data(1), 0, api.ErrWorn)
	stands(t, s, "xxx", 1)
}

// 11.2: a mishap of erases does nothing to a program.
func TestAppendWithOtherMishap(t *testing.T) {
	s, n := freshStore(t)
	plan(n, api.EraseFail)
	appends(t, s, data(1), 0, api.OK)
	stands(t, s, "o", 1)
}

// 11.2: blocks that were programmed behind the store's back are opened with what is left of them.
func TestAppendBesideAnother(t *testing.T) {
	s, n := freshStore(t)
	program(t, n, 0, data(1))
	for i := range pages {
		program(t, n, pages+i, data(1))
	}
	appends(t, s, data(2), 1, api.OK)
	stands(t, s, "o", 1)
	s.Seal()
	appends(t, s, data(2), 2*pages, api.OK)
	stands(t, s, "##o", 2)
}

// 11.2: numbers up to the greatest; beyond it: ErrLong, ahead of all but ErrArg.
func TestAppendUsesUpNumbers(t *testing.T) {
	n := withSeq(t, mostSeq-1)
	s := open(t, n)
	appends(t, s, data(1), 0, api.OK)
	p := data(1)
	p.Seq = mostSeq
	reads(t, s, 0, p, api.OK)
	stands(t, s, "o..............#", mostSeq+1)
	appends(t, s, data(1), 0, api.ErrLong)
	stands(t, s, "o..............#", mostSeq+1)
	plan(n, api.EraseFail, api.EraseFail, api.EraseFail, api.PowerLoss)
	for block := range 3 {
		n.Erase(block)
	}
	s = open(t, n)
	stands(t, s, "xxx............#", mostSeq+1)
	appends(t, s, data(1), 0, api.ErrLong) // ahead of ErrWorn
	n.Erase(9)
	appends(t, s, data(1), 0, api.ErrLong) // ahead of ErrDown
}

// 11.2: ErrLong ahead of ErrSpace; the open block that has no page left is not full by it.
func TestAppendLongAheadOfSpace(t *testing.T) {
	n := withSeq(t, mostSeq-127)
	s := open(t, n)
	fill(t, s, (blocks-1)*pages)
	stands(t, s, strings.Repeat("#", blocks-2)+"o#", mostSeq-6)
	appends(t, s, data(1), 0, api.ErrSpace)
	full := strings.Repeat("#", blocks)
	stands(t, s, full, mostSeq-6)
	erases(t, s, 0, api.OK)
	fill(t, s, 7)
	appends(t, s, data(1), 0, api.ErrLong)
	stands(t, s, "o"+full[1:], mostSeq+1)
}

// 11.2: the last number is the page's in each block that it is begun in; ErrLong comes from the next Append on.
func TestAppendFailsWithLastNumber(t *testing.T) {
	n := withSeq(t, mostSeq-1)
	s := open(t, n)
	plan(n, api.ProgramFail, api.ProgramFail)
	appends(t, s, data(1), 2*pages, api.OK)
	stands(t, s, "xxo............#", mostSeq+1)
	p := data(1)
	p.Seq = mostSeq
	reads(t, s, 2*pages, p, api.OK)
	appends(t, s, data(1), 0, api.ErrLong)
	stands(t, s, "xxo............#", mostSeq+1)
	n = withSeq(t, mostSeq-1)
	s = open(t, n)
	plan(n, api.ProgramFail, api.ProgramFail, api.ProgramFail)
	appends(t, s, data(1), 0, api.ErrWorn)
	stands(t, s, "xxx............#", mostSeq+1)
	appends(t, s, data(1), 0, api.ErrLong)
	n = withSeq(t, mostSeq-1)
	s = open(t, n)
	plan(n, api.ProgramFail, api.PowerLoss)
	appends(t, s, data(1), 0, api.ErrDown)
	stands(t, s, "xo.............#", mostSeq+1)
	appends(t, s, data(1), 0, api.ErrLong)
	n = withSeq(t, mostSeq-2)
	s = open(t, n)
	plan(n, api.ProgramFail)
	appends(t, s, data(1), pages, api.OK)
	stands(t, s, "xo.............#", mostSeq)
	appends(t, s, data(1), pages+1, api.OK)
	stands(t, s, "xo.............#", mostSeq+1)
}
