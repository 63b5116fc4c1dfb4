package tree_test

import (
	"math"
	"slices"
	"testing"

	"scoria/api"
	"scoria/tree"
)

// 10.1, 10.2: the chapter's example, in whatever order the extents are laid.
func TestExample(t *testing.T) {
	var l []api.Ext
	for i := range 9 {
		l = append(l, zero(2*i, 1))
	}
	back := slices.Clone(l)
	slices.Reverse(back)
	for _, order := range [][]api.Ext{l, back} {
		h := holdAll(t, order)
		if h.tree.Height() != 2 || h.tree.Nodes() != 3 || h.tree.Fresh() != 3 || h.tree.Pages() != nil {
			t.Errorf("height %d, %d nodes, %d fresh, pages %v", h.tree.Height(), h.tree.Nodes(), h.tree.Fresh(), h.tree.Pages())
		}
		nodes := h.write()
		if len(nodes) != 3 || len(nodes[0].exts) != 4 || len(nodes[1].exts) != 5 {
			t.Errorf("written: %+v", nodes)
		}
	}
}

// 10.1, 10.2: a tree without extents.
func TestEmpty(t *testing.T) {
	h := hold(t)
	h.says(h.edges())
	h.write()
	h.cut(0, sectorBound)
	h.write()
	h.over(run(3, 2, 7))
	h.cut(3, 2)
	h.write()
}

// 10.5: of a nil tree nothing is said.
func TestNil(t *testing.T) {
	var n *tree.Tree
	if n.Over(zero(0, 1)) != api.ErrArg || n.Over(zero(0, 0)) != api.ErrArg || n.Cut(0, 1) != api.ErrArg || n.Cut(-1, 1) != api.ErrArg {
		t.Errorf("Over, Cut: no ErrArg")
	}
	if kind, at := n.Find(0); kind != api.Hole || at != 0 {
		t.Errorf("Find: %d, %d", kind, at)
	}
	if l, e := n.Clip(0, 1); l != nil || e != api.ErrArg {
		t.Errorf("Clip: %v, %d", l, e)
	}
	if n.All() != nil || n.Count() != 0 || n.Height() != 0 || n.Nodes() != 0 || n.Fresh() != 0 || n.Pages() != nil || n.Moved(0) || n.Moved(-1) {
		t.Errorf("not nothing")
	}
	for _, put := range []func(int, int, string) (int, error){nil, newFlash().put} {
		if top, err := n.Write(put); top != -1 || err != nil {
			t.Errorf("Write: %d, %v", top, err)
		}
	}
}

// 10.1: extents and ranges that may not be are refused, and change nothing.
func TestRefused(t *testing.T) {
	for _, count := range []int{0, 1, 100} {
		h := holdAll(t, singles(count))
		h.write()
		for _, e := range []api.Ext{
			{}, {From: 0, N: 1}, {From: 0, N: 1, Kind: 3}, {From: 0, N: 1, Kind: api.ExtZero, At: 1}, zero(0, 0), zero(0, -1), zero(-1, 2), zero(sectorBound, 1), zero(sectorBound-1, 2), zero(1, sectorBound), run(0, 1, -1), run(0, 1, pageBound), run(0, 2, pageBound-1), zero(math.MaxInt, math.MaxInt), zero(math.MinInt, math.MaxInt), zero(5, math.MaxInt), zero(5, math.MinInt),
		} {
			h.over(e)
		}
		for _, r := range [][2]int{{-1, 0}, {-1, 2}, {0, -1}, {5, -3}, {sectorBound, 1}, {sectorBound + 1, 0}, {sectorBound - 1, 2}, {1, sectorBound}, {math.MaxInt, 1}, {1, math.MaxInt}, {math.MinInt, math.MinInt}, {math.MinInt, 1}, {5, math.MinInt}, {math.MaxInt, math.MaxInt}, {math.MinInt, math.MaxInt}} {
			h.cut(r[0], r[1])
			h.clips(r[0], r[1])
		}
		if h.tree.Fresh() != 0 {
			t.Errorf("%d extents: %d nodes are fresh", count, h.tree.Fresh())
		}
	}
}

// 10.1: what is there already, laid over again, and what is a hole, cut again, leave all nodes written.
func TestNothingNew(t *testing.T) {
	h := holdAll(t, singles(200))
	h.over(run(1001, 50, 100))
	h.over(zero(2000, 50))
	h.write()
	for _, e := range h.list {
		h.over(e)
		h.cut(e.From, 0)
		h.cut(e.From+e.N, 1)
		h.cut(e.From+e.N, 0)
	}
	for i := range 49 {
		h.over(run(1001+i, 2, 100+i))
		h.over(zero(2000+i, 2))
		h.cut(2000+i, 0)
	}
	h.cut(sectorBound, 0)
	h.cut(3000, sectorBound-3000)
	if h.tree.Fresh() != 0 {
		t.Errorf("%d nodes are fresh", h.tree.Fresh())
	}
	h.over(run(1010, 1, 110))
	h.over(run(1010, 1, 111))
	if h.tree.Fresh() == 0 {
		t.Errorf("a sector in another page: no node is fresh")
	}
}

// 10.2, 10.5: whatever order extents come and go in, each node is of a size that it may have.
func TestComeAndGo(t *testing.T) {
	d := draw(3)
	l := singles(600)
	back := slices.Clone(l)
	slices.Reverse(back)
	for _, come := range [][]api.Ext{l, back, d.shuffled(l)} {
		for _, goes := range [][]api.Ext{l, back, d.shuffled(l)} {
			h := holdAll(t, come)
			h.write()
			h.says(h.edges())
			for i, e := range goes {
				h.cut(e.From, e.N)
				if i%7 == 0 || i > 580 {
					h.write()
				}
			}
			h.write()
		}
	}
}

// 10.1, 10.2: ranges of many leaves are cut, or laid over, at once.
func TestWideRanges(t *testing.T) {
	const count = 160
	base := holdAll(t, singles(count))
	nodes := base.write()
	for from := 0; from < 2*count; from += 5 {
		for _, n := range []int{1, 3, 8, 9, 16, 17, 31, 64, 100, 200, 2*count - from} {
			h := base.read(nodes)
			h.cut(from, n)
			h.spread(nodes)
			h.write()
			h = base.read(nodes)
			h.over(run(from, n, 1000))
			h.spread(nodes)
			h.write()
		}
	}
}

// 10.5: two leaves that a cut makes too small become one, and no other leaf is fresh; nor is one, if enough is left to both.
func TestFewAreFresh(t *testing.T) {
	base := holdAll(t, singles(160))
	nodes := base.write()
	leaves := of(nodes, 1)
	for i, n := range leaves[:len(leaves)-2] {
		next := leaves[i+1]
		if !slices.Contains(above(nodes, n.page), parent(nodes, next.page)) {
			continue
		}
		h := base.read(nodes)
		h.cut(n.exts[2].From, next.exts[2].From-n.exts[2].From)
		h.spread(nodes)
		left := without(pagesOf(leaves), h.tree.Pages())
		if !slices.Equal(left, []int{n.page, next.page}) {
			t.Errorf("leaves in the pages %d, %d: the ones in %v are fresh", n.page, next.page, left)
		}
		h.write()
	}
}

// parent is the page of the node over a page.
func parent(nodes []seen, page int) int {
	return above(nodes, page)[1]
}

// 10.1: all sectors, at once.
func TestAllSectors(t *testing.T) {
	h := holdAll(t, singles(300))
	h.over(run(sectorBound-1, 1, pageBound-1))
	h.write()
	h.says(h.edges())
	h.over(zero(0, sectorBound))
	h.write()
	h.says(h.edges())
	h.over(run(5000, 2048, 0))
	h.over(run(sectorBound-1, 1, 0))
	h.over(run(0, 1, 0))
	h.write()
	h.says(h.edges())
	h.cut(0, sectorBound)
	h.write()
	h.says(h.edges())
}

// 10.1: a tree that is higher than one that can be read holds what it is to hold.
func TestHigherThanReadable(t *testing.T) {
	const count = 10000
	n := tree.New()
	for i := range count {
		n.Over(zero(2*i, 1))
	}
	all := n.All()
	if n.Height() <= api.MaxHigh || len(all) != count || n.Count() != count || n.Fresh() != n.Nodes() {
		t.Errorf("height %d, %d extents, %d sectors, %d nodes, %d fresh", n.Height(), len(all), n.Count(), n.Nodes(), n.Fresh())
	}
	for i := range 2 * count {
		kind, _ := n.Find(i)
		if kind != (i+1)%2 {
			t.Fatalf("Find(%d): %d", i, kind)
		}
	}
	n.Cut(1, 2*count)
	if got := n.All(); n.Height() != 1 || !slices.Equal(got, []api.Ext{zero(0, 1)}) {
		t.Errorf("height %d, %v", n.Height(), got)
	}
}

// 10.1: answers share no memory with what the tree keeps.
func TestAnswersAreApart(t *testing.T) {
	h := holdAll(t, singles(3))
	clear(h.tree.All())
	l, _ := h.tree.Clip(0, 100)
	clear(l)
	h.write()
	clear(h.tree.Pages())
	h.is("answers that are cleared", api.OK, h.list, api.OK)
	if !slices.Equal(h.tree.Pages(), []int{0}) {
		t.Errorf("Pages: %v", h.tree.Pages())
	}
}

// above are the pages of the nodes over a page, and itself.
func above(nodes []seen, page int) []int {
	pages := []int{page}
	for _, n := range nodes {
		if slices.ContainsFunc(n.kids, func(k api.Kid) bool { return slices.Contains(pages, k.At) }) {
			pages = append(pages, n.page)
		}
	}
	return pages
}

// 10.2: what is moved is fresh, and so are those above it, and no others; what is moved already, or no page, moves nothing.
func TestMoved(t *testing.T) {
	for _, count := range []int{1, 8, 9, 40, 300} {
		h := holdAll(t, singles(count))
		nodes := h.write()
		for _, n := range nodes {
			moves(t, h.flash, nodes, n.page)
		}
		for _, page := range []int{-1, -2, math.MinInt, len(nodes), pageBound, math.MaxInt} {
			if h.tree.Moved(page) || h.tree.Fresh() != 0 {
				t.Errorf("Moved(%d): %d are fresh", page, h.tree.Fresh())
			}
		}
	}
}

func moves(t *testing.T, f *flash, nodes []seen, page int) {
	t.Helper()
	h := (&held{t, nil, nil, f}).read(nodes)
	n := h.tree
	gone := above(nodes, page)
	stay := slices.DeleteFunc(sorted(pagesOf(nodes)), func(p int) bool { return slices.Contains(gone, p) })
	for _, first := range []bool{true, false} {
		if n.Moved(page) != first || n.Fresh() != len(gone) || !slices.Equal(n.Pages(), stay) || n.Moved(-1) {
			t.Fatalf("Moved(%d): %d are fresh, %v stay; want %v", page, n.Fresh(), n.Pages(), stay)
		}
	}
	h.write()
}

// 10.2: of a tree that was never written no node stands in a page.
func TestMovedOfFresh(t *testing.T) {
	h := holdAll(t, singles(50))
	for page := -3; page < 60; page++ {
		if h.tree.Moved(page) {
			t.Errorf("Moved(%d): true", page)
		}
	}
}
