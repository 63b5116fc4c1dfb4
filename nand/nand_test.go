package nand_test

import (
	"math"
	"strings"
	"testing"

	"scoria/api"
	"scoria/fault"
	"scoria/nand"
)

// pages of each block of the arrays that most tests use.
const pages = api.MinPages

// noKind are kinds that a mishap can't have.
var noKind = []int{0, 4, -1, 100, math.MinInt, math.MaxInt}

func fresh(t *testing.T) *nand.Nand {
	t.Helper()
	return of(t, api.Geometry{Blocks: api.MinBlocks, Pages: pages})
}

func of(t *testing.T, g api.Geometry) *nand.Nand {
	t.Helper()
	n, err := nand.New(g)
	if n == nil || err != nil {
		t.Fatalf("New(%v): %v", g, err)
	}
	return n
}

// is looks at an error: nil for OK, else the number, wrapped once.
func is(t *testing.T, what string, err error, op string, at int, want api.Errno) {
	t.Helper()
	if want == api.OK {
		if err != nil {
			t.Errorf("%s: %v; want no error", what, err)
		}
		return
	}
	f, ok := err.(*fault.Fault)
	if !ok || f.Step != (api.Step{Op: op, At: at}) || f.Err != error(want) {
		t.Errorf("%s: %v; want %s %d: %d", what, err, op, at, want)
	}
}

func program(t *testing.T, n *nand.Nand, page int, s string, want api.Errno) {
	t.Helper()
	is(t, "Program", n.Program(page, s), "program", page, want)
}

func erase(t *testing.T, n *nand.Nand, block int, want api.Errno) {
	t.Helper()
	is(t, "Erase", n.Erase(block), "erase", block, want)
}

func reads(t *testing.T, n *nand.Nand, page int, text string, want api.Errno) {
	t.Helper()
	s, err := n.Read(page)
	is(t, "Read", err, "read", page, want)
	if s != text {
		t.Errorf("Read(%d): %q; want %q", page, s, text)
	}
}

// block looks at what is known of a block.
func block(t *testing.T, n *nand.Nand, b, next, worn int, bad bool) {
	t.Helper()
	if n.Next(b) != next || n.Worn(b) != worn || n.Bad(b) != bad {
		t.Errorf("block %d: next %d, worn %d, bad %t; want %d, %d, %t", b, n.Next(b), n.Worn(b), n.Bad(b), next, worn, bad)
	}
}

// ops looks at how many operations were counted, and whether the array is down.
func ops(t *testing.T, n *nand.Nand, want int, down bool) {
	t.Helper()
	if n.Ops() != want || n.Down() != down {
		t.Errorf("ops %d, down %t; want %d, %t", n.Ops(), n.Down(), want, down)
	}
}

// plan lays a plan of one mishap for the next operation.
func plan(n *nand.Nand, kind, keep int, junk string) {
	n.Plan([]api.Mishap{{At: 1, Kind: kind, Keep: keep, Junk: junk}})
}

// 4.1: geometries from the least to the greatest give an array whose pages are blank.
func TestNewIsBlank(t *testing.T) {
	for _, x := range [][2]int{{16, 8}, {16, 32}, {64, 8}, {64, 32}, {17, 9}, {63, 31}} {
		g := api.Geometry{Blocks: x[0], Pages: x[1]}
		n := of(t, g)
		if n.Geometry() != g {
			t.Errorf("Geometry: %v; want %v", n.Geometry(), g)
		}
		ops(t, n, 0, false)
		for b := range g.Blocks {
			block(t, n, b, 0, 0, false)
		}
		for p := range g.Blocks * g.Pages {
			reads(t, n, p, "", api.ErrBlank)
		}
		reads(t, n, g.Blocks*g.Pages, "", api.ErrArg)
	}
}

// 4.1: what is just beside the bounds, and far from them, may not be.
func TestNewRefusesGeometries(t *testing.T) {
	for _, x := range [][2]int{{15, 8}, {65, 8}, {16, 7}, {16, 33}, {15, 7}, {65, 33}, {0, 0}, {0, 8}, {16, 0}, {-16, 8}, {16, -8}, {-16, -8}, {8, 16}, {math.MinInt, 8}, {math.MaxInt, 8}, {16, math.MinInt}, {16, math.MaxInt}, {math.MaxInt, math.MaxInt}} {
		g := api.Geometry{Blocks: x[0], Pages: x[1]}
		n, err := nand.New(g)
		is(t, "New", err, "new", g.Blocks, api.ErrArg)
		if n != nil {
			t.Errorf("New(%v): an array", g)
		}
	}
}

// 4.1: a nil array answers ErrArg to everything, and is down.
func TestNilArray(t *testing.T) {
	var n *nand.Nand
	n.Plan([]api.Mishap{{At: 1, Kind: api.PowerLoss}})
	n.Up()
	for _, at := range []int{math.MinInt, -1, 0, 1, math.MaxInt} {
		program(t, n, at, "a", api.ErrArg)
		program(t, n, at, strings.Repeat("a", 129), api.ErrArg)
		erase(t, n, at, api.ErrArg)
		reads(t, n, at, "", api.ErrArg)
		block(t, n, at, 0, 0, false)
	}
	ops(t, n, 0, true)
	if n.Geometry() != (api.Geometry{}) {
		t.Errorf("Geometry: %v", n.Geometry())
	}
}

// 4.2, 4.4: pages that are programmed in order are read; a page of no bytes is not blank.
func TestProgramInOrder(t *testing.T) {
	n := fresh(t)
	program(t, n, 0, "a", api.OK)
	program(t, n, 1, "", api.OK)
	program(t, n, 2, "\x00\xff", api.OK)
	program(t, n, 3*pages, "d", api.OK)
	reads(t, n, 0, "a", api.OK)
	reads(t, n, 1, "", api.OK)
	reads(t, n, 2, "\x00\xff", api.OK)
	reads(t, n, 3, "", api.ErrBlank)
	reads(t, n, 3*pages, "d", api.OK)
	reads(t, n, 3*pages+1, "", api.ErrBlank)
	block(t, n, 0, 3, 0, false)
	block(t, n, 1, 0, 0, false)
	block(t, n, 3, 1, 0, false)
	ops(t, n, 4, false)
}

// 4.2: each block takes as many pages as it has, also the last one.
func TestProgramFillsBlocks(t *testing.T) {
	for _, x := range [][2]int{{16, 8}, {64, 32}, {17, 9}} {
		g := api.Geometry{Blocks: x[0], Pages: x[1]}
		n := of(t, g)
		for p := range g.Blocks * g.Pages {
			program(t, n, p, strings.Repeat("x", p%129), api.OK)
		}
		for p := range g.Blocks * g.Pages {
			reads(t, n, p, strings.Repeat("x", p%129), api.OK)
			program(t, n, p, "y", api.ErrOrder)
		}
		for b := range g.Blocks {
			block(t, n, b, g.Pages, 0, false)
		}
		ops(t, n, g.Blocks*g.Pages, false)
	}
}

// 4.2: pages out of their order, and twice, are refused, and nothing is changed.
func TestProgramOutOfOrder(t *testing.T) {
	n := fresh(t)
	program(t, n, 1, "b", api.ErrOrder)
	program(t, n, pages-1, "h", api.ErrOrder)
	reads(t, n, 1, "", api.ErrBlank)
	program(t, n, 0, "a", api.OK)
	program(t, n, 0, "z", api.ErrOrder)
	program(t, n, 2, "c", api.ErrOrder)
	program(t, n, pages+1, "c", api.ErrOrder)
	reads(t, n, 0, "a", api.OK)
	program(t, n, 1, "b", api.OK)
	block(t, n, 0, 2, 0, false)
	block(t, n, 1, 0, 0, false)
	ops(t, n, 2, false)
}

// 4.2 to 4.4: pages and blocks beyond each end are none.
func TestBeyondTheEnds(t *testing.T) {
	n := fresh(t)
	for _, p := range []int{math.MinInt, -pages, -1, 16 * pages, 16*pages + 1, math.MaxInt} {
		program(t, n, p, "a", api.ErrArg)
		reads(t, n, p, "", api.ErrArg)
	}
	for _, b := range []int{math.MinInt, -1, 16, 17, 16 * pages, math.MaxInt} {
		erase(t, n, b, api.ErrArg)
		block(t, n, b, 0, 0, false)
	}
	erase(t, n, 15, api.OK)
	program(t, n, 15*pages, "a", api.OK)
	ops(t, n, 2, false)
}

// 4.2: a text of just as many bytes as a page holds is programmed, one more is not.
func TestProgramLongTexts(t *testing.T) {
	n := fresh(t)
	most := strings.Repeat("m", 128)
	program(t, n, 0, most+"m", api.ErrArg)
	program(t, n, 0, strings.Repeat("m", 100000), api.ErrArg)
	block(t, n, 0, 0, 0, false)
	program(t, n, 0, most, api.OK)
	reads(t, n, 0, most, api.OK)
	program(t, n, 5, most+"m", api.ErrArg) // ahead of ErrOrder
	ops(t, n, 1, false)
}

// The spoilt bytes: what a mishap leaves of abc, and of no text.
var spoilt = []struct {
	keep          int
	junk          string
	ofABC, ofNone string
}{
	{1, "z", "az", "z"},
	{2, "", "ab", ""},
	{0, "z", "z", "z"},
	{0, "", "", ""},
	{-1, "yz", "yz", "yz"},
	{math.MinInt, "", "", ""},
	{3, "z", "abcz", "z"},
	{4, "z", "abcz", "z"},
	{math.MaxInt, "", "abc", ""},
	{1, strings.Repeat("j", 127), "a" + strings.Repeat("j", 127), strings.Repeat("j", 127)},
	{1, strings.Repeat("j", 128), "a" + strings.Repeat("j", 127), strings.Repeat("j", 128)},
	{0, strings.Repeat("j", 129), strings.Repeat("j", 128), strings.Repeat("j", 128)},
	{9, strings.Repeat("jk", 5000), "abc" + strings.Repeat("jk", 62) + "j", strings.Repeat("jk", 64)},
}

// 4.2: power that is lost at a Program leaves the spoilt bytes, and the array is down.
func TestProgramLosesPower(t *testing.T) {
	for _, x := range spoilt {
		n := fresh(t)
		program(t, n, 0, "p", api.OK)
		plan(n, api.PowerLoss, x.keep, x.junk)
		program(t, n, 1, "abc", api.ErrDown)
		ops(t, n, 2, true)
		block(t, n, 0, 2, 0, false)
		reads(t, n, 1, "", api.ErrDown)
		n.Up()
		ops(t, n, 2, false)
		reads(t, n, 0, "p", api.OK)
		reads(t, n, 1, x.ofABC, api.OK)
		reads(t, n, 2, "", api.ErrBlank)
		program(t, n, 1, "abc", api.ErrOrder)
		program(t, n, 2, "abc", api.OK)
	}
}

// 4.2: a Program that fails leaves the spoilt bytes, and the block is bad; the array is not down.
func TestProgramFails(t *testing.T) {
	for _, x := range spoilt {
		n := fresh(t)
		program(t, n, 0, "p", api.OK)
		plan(n, api.ProgramFail, x.keep, x.junk)
		program(t, n, 1, "abc", api.ErrBad)
		ops(t, n, 2, false)
		block(t, n, 0, 2, 0, true)
		reads(t, n, 0, "p", api.OK)
		reads(t, n, 1, x.ofABC, api.OK)
		reads(t, n, 2, "", api.ErrBlank)
	}
}

// 4.2: a whole page's text is spoilt like a short one: kept bytes and junk make a page at most.
func TestProgramSpoilsAWholePage(t *testing.T) {
	for _, kind := range []int{api.PowerLoss, api.ProgramFail} {
		for _, keep := range []int{0, 1, 127, 128, 129} {
			n := fresh(t)
			text := strings.Repeat("t", 128)
			plan(n, kind, keep, "jjj")
			n.Program(0, text)
			n.Up()
			want := text[:min(keep, 128)] + "jjj"
			reads(t, n, 0, want[:min(len(want), 128)], api.OK)
		}
	}
}

// 4.2: an EraseFail, and what is no kind, do nothing at a Program; they wait for no other operation.
func TestProgramWithMishapsOfOtherKinds(t *testing.T) {
	for _, kind := range append([]int{api.EraseFail}, noKind...) {
		n := fresh(t)
		plan(n, kind, 1, "z")
		program(t, n, 0, "abc", api.OK)
		reads(t, n, 0, "abc", api.OK)
		erase(t, n, 0, api.OK)
		block(t, n, 0, 0, 1, false)
		ops(t, n, 2, false)
	}
}

// 4.3: an erased block is blank, is counted once more, and takes its pages anew; other blocks stay.
func TestErase(t *testing.T) {
	n := fresh(t)
	erase(t, n, 1, api.OK)
	block(t, n, 1, 0, 1, false)
	for i := range 3 {
		for p := range pages {
			program(t, n, pages+p, strings.Repeat("b", i+p), api.OK)
		}
		program(t, n, 0+i, "a", api.OK)
		program(t, n, 2*pages+i, "c", api.OK)
		erase(t, n, 1, api.OK)
		block(t, n, 1, 0, i+2, false)
		for p := range pages {
			reads(t, n, pages+p, "", api.ErrBlank)
		}
		block(t, n, 0, i+1, 0, false)
		block(t, n, 2, i+1, 0, false)
		reads(t, n, i, "a", api.OK)
		reads(t, n, 2*pages+i, "c", api.OK)
	}
	program(t, n, pages+1, "b", api.ErrOrder)
	ops(t, n, 1+3*(pages+3), false)
}

// 4.3: power that is lost at an Erase lets all pages of the block have the spoilt bytes, if Keep is above 0; else it changes nothing.
func TestEraseLosesPower(t *testing.T) {
	for _, x := range spoilt {
		n := fresh(t)
		program(t, n, pages, "p", api.OK)
		plan(n, api.PowerLoss, x.keep, x.junk)
		erase(t, n, 1, api.ErrDown)
		ops(t, n, 2, true)
		n.Up()
		if x.keep <= 0 {
			block(t, n, 1, 1, 0, false)
			reads(t, n, pages, "p", api.OK)
			reads(t, n, pages+1, "", api.ErrBlank)
			program(t, n, pages+1, "q", api.OK)
			continue
		}
		block(t, n, 1, pages, 0, false)
		for p := range pages {
			reads(t, n, pages+p, x.ofNone, api.OK)
			program(t, n, pages+p, "q", api.ErrOrder)
		}
		reads(t, n, pages-1, "", api.ErrBlank)
		reads(t, n, 2*pages, "", api.ErrBlank)
		erase(t, n, 1, api.OK)
		block(t, n, 1, 0, 1, false)
		reads(t, n, pages, "", api.ErrBlank)
	}
}

// 4.3: an Erase that fails makes the block bad, and changes nothing else.
func TestEraseFails(t *testing.T) {
	for _, x := range spoilt {
		n := fresh(t)
		program(t, n, pages, "p", api.OK)
		plan(n, api.EraseFail, x.keep, x.junk)
		erase(t, n, 1, api.ErrBad)
		block(t, n, 1, 1, 0, true)
		reads(t, n, pages, "p", api.OK)
		reads(t, n, pages+1, "", api.ErrBlank)
		ops(t, n, 2, false)
	}
}

// 4.3: a ProgramFail, and what is no kind, do nothing at an Erase; they wait for no other operation.
func TestEraseWithMishapsOfOtherKinds(t *testing.T) {
	for _, kind := range append([]int{api.ProgramFail}, noKind...) {
		n := fresh(t)
		program(t, n, 0, "abc", api.OK)
		plan(n, kind, 1, "z")
		erase(t, n, 0, api.OK)
		reads(t, n, 0, "", api.ErrBlank)
		program(t, n, 0, "abc", api.OK)
		block(t, n, 0, 1, 1, false)
		ops(t, n, 3, false)
	}
}

// 4.2 to 4.4: a block that went bad is neither programmed nor erased any more, which is not counted; it is read as it was.
func TestBadBlocks(t *testing.T) {
	n := fresh(t)
	program(t, n, 0, "a", api.OK)
	plan(n, api.EraseFail, 0, "")
	erase(t, n, 0, api.ErrBad)
	plan(n, api.ProgramFail, 1, "!")
	program(t, n, pages, "b", api.ErrBad)
	for range 2 {
		program(t, n, 1, "a", api.ErrBad)
		program(t, n, 0, "a", api.ErrBad) // ahead of ErrOrder
		program(t, n, 1, strings.Repeat("a", 129), api.ErrArg)
		program(t, n, pages+1, "b", api.ErrBad)
		erase(t, n, 0, api.ErrBad)
		erase(t, n, 1, api.ErrBad)
		n.Up()
	}
	block(t, n, 0, 1, 0, true)
	block(t, n, 1, 1, 0, true)
	reads(t, n, 0, "a", api.OK)
	reads(t, n, 1, "", api.ErrBlank)
	reads(t, n, pages, "b!", api.OK)
	program(t, n, 2*pages, "c", api.OK)
	ops(t, n, 4, false)
}

// 4.2 to 4.4: an array that is down says ErrDown ahead of all else, and is still asked what is known of it.
func TestDown(t *testing.T) {
	n := fresh(t)
	plan(n, api.EraseFail, 0, "")
	erase(t, n, 1, api.ErrBad)
	program(t, n, 0, "a", api.OK)
	plan(n, api.PowerLoss, 0, "")
	program(t, n, 1, "b", api.ErrDown)
	for _, at := range []int{math.MinInt, -1, 0, 1, 2, pages, 16 * pages, math.MaxInt} {
		program(t, n, at, "a", api.ErrDown)
		program(t, n, at, strings.Repeat("a", 129), api.ErrDown)
		erase(t, n, at, api.ErrDown)
		reads(t, n, at, "", api.ErrDown)
	}
	ops(t, n, 3, true)
	block(t, n, 0, 2, 0, false)
	block(t, n, 1, 0, 0, true)
	block(t, n, -1, 0, 0, false)
	if n.Geometry() != (api.Geometry{Blocks: 16, Pages: pages}) {
		t.Errorf("Geometry: %v", n.Geometry())
	}
	n.Up()
	reads(t, n, 0, "a", api.OK)
	reads(t, n, 1, "", api.OK)
	program(t, n, 2, "c", api.OK)
	ops(t, n, 4, false)
}

// 4.4: Up lets no mishap wait, whether the array was down or not, and also those of a plan that was laid while it was.
func TestUpClearsThePlan(t *testing.T) {
	two := []api.Mishap{{At: 1, Kind: api.PowerLoss}, {At: 2, Kind: api.PowerLoss}, {At: 3, Kind: api.ProgramFail}}
	n := fresh(t)
	n.Plan(two)
	program(t, n, 0, "a", api.ErrDown)
	n.Up()
	for p := 1; p < 4; p++ {
		program(t, n, p, "a", api.OK)
	}
	n.Plan(two)
	n.Up()
	for p := range 3 {
		program(t, n, pages+p, "a", api.OK)
	}
	plan(n, api.PowerLoss, 0, "")
	erase(t, n, 0, api.ErrDown)
	n.Plan(two)
	ops(t, n, 8, true)
	n.Up()
	for b := range 3 {
		erase(t, n, b, api.OK)
	}
	n.Up()
	ops(t, n, 11, false)
}

// 4.4: a mishap comes at the operation of its At from when the plan was laid, and at no other one.
func TestPlanCountsFromWhenItWasLaid(t *testing.T) {
	for at := 1; at <= 5; at++ {
		n := fresh(t)
		program(t, n, 0, "a", api.OK)
		erase(t, n, 0, api.OK)
		n.Plan([]api.Mishap{{At: at, Kind: api.ProgramFail}})
		for i := 1; i <= 6; i++ {
			want := api.OK
			if i == at {
				want = api.ErrBad
			}
			program(t, n, i*pages, "a", want)
		}
		ops(t, n, 8, false)
	}
}

// 4.4: what is refused for its arguments or its order, and Reads, are no operations: a mishap waits on.
func TestWhatIsNoOperation(t *testing.T) {
	n := fresh(t)
	program(t, n, 0, "a", api.OK)
	plan(n, api.EraseFail, 0, "")
	erase(t, n, 1, api.ErrBad)
	plan(n, api.ProgramFail, 0, "")
	for range 3 {
		program(t, n, -1, "a", api.ErrArg)
		program(t, n, 1, strings.Repeat("a", 129), api.ErrArg)
		program(t, n, 0, "a", api.ErrOrder)
		program(t, n, pages, "a", api.ErrBad)
		erase(t, n, 16, api.ErrArg)
		erase(t, n, 1, api.ErrBad)
		reads(t, n, 0, "a", api.OK)
		reads(t, n, 5, "", api.ErrBlank)
		reads(t, n, -5, "", api.ErrArg)
		n.Next(0)
		n.Bad(0)
		n.Worn(0)
		n.Geometry()
	}
	ops(t, n, 2, false)
	program(t, n, 1, "a", api.ErrBad)
	ops(t, n, 3, false)
}

// 4.4: of several mishaps at one operation the first one counts, also one that does nothing there.
func TestSeveralMishapsAtOne(t *testing.T) {
	loss := api.Mishap{At: 1, Kind: api.PowerLoss, Keep: 1, Junk: "l"}
	fail := api.Mishap{At: 1, Kind: api.ProgramFail, Keep: 2, Junk: "f"}
	other := api.Mishap{At: 1, Kind: api.EraseFail}
	none := api.Mishap{At: 1, Kind: 7}
	for _, x := range []struct {
		l    []api.Mishap
		want api.Errno
		text string
	}{
		{[]api.Mishap{loss, fail}, api.ErrDown, "al"},
		{[]api.Mishap{fail, loss}, api.ErrBad, "abf"},
		{[]api.Mishap{fail, fail, loss}, api.ErrBad, "abf"},
		{[]api.Mishap{other, loss, fail}, api.OK, "abc"},
		{[]api.Mishap{none, loss, fail}, api.OK, "abc"},
		{[]api.Mishap{{At: 2, Kind: 7}, loss}, api.ErrDown, "al"},
		{[]api.Mishap{{At: 0, Kind: api.PowerLoss}, fail, none}, api.ErrBad, "abf"},
	} {
		n := fresh(t)
		n.Plan(x.l)
		program(t, n, 0, "abc", x.want)
		down := n.Down()
		if down != (x.want == api.ErrDown) || n.Bad(0) != (x.want == api.ErrBad) {
			t.Errorf("%v: down %t, bad %t", x.l, down, n.Bad(0))
		}
		if !down {
			// None of those behind the first one waits on.
			program(t, n, pages, "d", api.OK)
		}
		n.Up()
		reads(t, n, 0, x.text, api.OK)
	}
}

// 4.4: mishaps in any order, at operations far apart, each come at their own.
func TestMishapsInAnyOrder(t *testing.T) {
	n := fresh(t)
	n.Plan([]api.Mishap{{At: 4, Kind: api.PowerLoss}, {At: 1, Kind: api.ProgramFail}, {At: 3, Kind: api.EraseFail}, {At: 2, Kind: 9}})
	program(t, n, 0, "a", api.ErrBad)
	program(t, n, pages, "b", api.OK)
	erase(t, n, 2, api.ErrBad)
	program(t, n, pages+1, "b", api.ErrDown)
	ops(t, n, 4, true)
}

// 4.4: mishaps of At below 1, and beyond what comes, count for nothing.
func TestMishapsOfNoOperation(t *testing.T) {
	for _, at := range []int{0, -1, -2, math.MinInt, math.MinInt + 3, math.MaxInt, math.MaxInt - 3} {
		n := fresh(t)
		for p := range 4 {
			program(t, n, p, "a", api.OK)
		}
		n.Plan([]api.Mishap{{At: at, Kind: api.PowerLoss}})
		for p := range 4 {
			program(t, n, pages+p, "b", api.OK)
		}
		erase(t, n, 0, api.OK)
		ops(t, n, 9, false)
	}
}

// 4.4: a plan takes the place of the one that was; one of no mishaps, too.
func TestPlanTakesThePlace(t *testing.T) {
	n := fresh(t)
	n.Plan([]api.Mishap{{At: 1, Kind: api.PowerLoss}, {At: 3, Kind: api.PowerLoss}})
	n.Plan([]api.Mishap{{At: 2, Kind: api.ProgramFail}})
	program(t, n, 0, "a", api.OK)
	program(t, n, pages, "b", api.ErrBad)
	for p := range 3 {
		program(t, n, 2*pages+p, "c", api.OK)
	}
	for _, none := range [][]api.Mishap{nil, {}} {
		plan(n, api.PowerLoss, 0, "")
		n.Plan(none)
		erase(t, n, 2, api.OK)
	}
	ops(t, n, 7, false)
}

// R3: a list that is a plan is neither changed nor kept.
func TestPlanKeepsNoList(t *testing.T) {
	n := fresh(t)
	long := strings.Repeat("j", 300)
	l := []api.Mishap{{At: 2, Kind: api.ProgramFail, Keep: 1, Junk: long}, {At: 0, Kind: 9}}
	n.Plan(l)
	if l[0] != (api.Mishap{At: 2, Kind: api.ProgramFail, Keep: 1, Junk: long}) || l[1] != (api.Mishap{Kind: 9}) {
		t.Errorf("Plan changed its list")
	}
	l[0] = api.Mishap{At: 1, Kind: api.PowerLoss}
	program(t, n, 0, "a", api.OK)
	program(t, n, 1, "b", api.ErrBad)
	reads(t, n, 1, "b"+long[:127], api.OK)
}

// R3: two arrays have nothing in common.
func TestTwoArrays(t *testing.T) {
	a, b := fresh(t), fresh(t)
	program(t, a, 0, "a", api.OK)
	plan(a, api.PowerLoss, 0, "")
	program(t, b, 0, "b", api.OK)
	erase(t, a, 0, api.ErrDown)
	ops(t, a, 2, true)
	ops(t, b, 1, false)
	reads(t, b, 0, "b", api.OK)
	block(t, b, 0, 1, 0, false)
}
