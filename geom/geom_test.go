package geom_test

import (
	"math"
	"testing"

	"scoria/api"
	"scoria/geom"
)

// all yields each geometry that may be.
func all(yield func(api.Geometry) bool) {
	for blocks := 16; blocks <= 64; blocks++ {
		for pages := 8; pages <= 32; pages++ {
			if !yield(api.Geometry{Blocks: blocks, Pages: pages}) {
				return
			}
		}
	}
}

// noGeometries are some that may not be: just beside the bounds, below 0, and far beyond.
func noGeometries() []api.Geometry {
	var l []api.Geometry
	for _, blocks := range []int{15, 65, 0, 1, -1, -16, 1 << 32, 1<<32 + 16, math.MinInt, math.MinInt + 16, math.MaxInt} {
		for _, pages := range []int{8, 9, 31, 32} {
			l = append(l, api.Geometry{Blocks: blocks, Pages: pages})
		}
	}
	for _, pages := range []int{7, 33, 0, 1, -1, -8, 1 << 32, 1<<32 + 8, math.MinInt, math.MinInt + 8, math.MaxInt} {
		for _, blocks := range []int{16, 17, 63, 64} {
			l = append(l, api.Geometry{Blocks: blocks, Pages: pages})
		}
	}
	return append(l, api.Geometry{}, api.Geometry{Blocks: 8, Pages: 16}, api.Geometry{Blocks: 15, Pages: 7}, api.Geometry{Blocks: 65, Pages: 33}, api.Geometry{Blocks: math.MaxInt, Pages: math.MaxInt}, api.Geometry{Blocks: math.MinInt, Pages: math.MinInt})
}

// times is how often a number goes into another one, counted by taking it away.
func times(n, of int) int {
	count := 0
	for ; of >= n; of -= n {
		count++
	}
	return count
}

// plan is what a geometry gives, and its nodes, counted one by one.
func plan(g api.Geometry) (p api.Plan, nodes int) {
	for range g.Blocks {
		for range g.Pages {
			p.Pages++
		}
	}
	p.Spare = times(8, g.Blocks)
	p.Capacity = times(16, p.Pages-p.Spare*g.Pages-4*g.Pages)
	nodes = times(2, p.Capacity) + 16
	p.Low = 2 + p.Spare
	for held := 0; held < 8+g.Pages+nodes+1; held += g.Pages {
		p.Low++
	}
	p.High = p.Low + 1
	return p, nodes
}

// 6.1: all geometries from the least to the greatest may be.
func TestCheck(t *testing.T) {
	for g := range all {
		if e := geom.Check(g); e != api.OK {
			t.Errorf("Check(%v): %d", g, e)
		}
	}
}

// 6.1, 6.2: a geometry that may not be gives nothing, has no page and no block.
func TestGeometriesThatMayNotBe(t *testing.T) {
	for _, g := range noGeometries() {
		if e := geom.Check(g); e != api.ErrArg {
			t.Errorf("Check(%v): %d; want ErrArg", g, e)
		}
		if p, e := geom.Plan(g); p != (api.Plan{}) || e != api.ErrArg {
			t.Errorf("Plan(%v): %v, %d; want ErrArg", g, p, e)
		}
		if n := geom.Nodes(g); n != 0 {
			t.Errorf("Nodes(%v): %d; want 0", g, n)
		}
		for _, at := range []int{math.MinInt, -1, 0, 1, 8, 127, math.MaxInt} {
			if b, f := geom.Block(g, at), geom.First(g, at); b != -1 || f != -1 {
				t.Errorf("Block and First(%v, %d): %d, %d; want -1", g, at, b, f)
			}
		}
	}
}

// 6.1: the plans of the chapter's example, of the other ends, and of some between that are rounded, reckoned by hand.
func TestPlanOfExamples(t *testing.T) {
	for _, x := range []struct {
		g     api.Geometry
		p     api.Plan
		nodes int
	}{
		{api.Geometry{Blocks: 16, Pages: 8}, api.Plan{Pages: 128, Spare: 2, Capacity: 5, Low: 9, High: 10}, 18},
		{api.Geometry{Blocks: 16, Pages: 32}, api.Plan{Pages: 512, Spare: 2, Capacity: 20, Low: 7, High: 8}, 26},
		{api.Geometry{Blocks: 64, Pages: 8}, api.Plan{Pages: 512, Spare: 8, Capacity: 26, Low: 16, High: 17}, 29},
		{api.Geometry{Blocks: 64, Pages: 32}, api.Plan{Pages: 2048, Spare: 8, Capacity: 104, Low: 14, High: 15}, 68},
		{api.Geometry{Blocks: 23, Pages: 9}, api.Plan{Pages: 207, Spare: 2, Capacity: 9, Low: 9, High: 10}, 20},
		{api.Geometry{Blocks: 24, Pages: 15}, api.Plan{Pages: 360, Spare: 3, Capacity: 15, Low: 9, High: 10}, 23},
	} {
		if p, e := geom.Plan(x.g); p != x.p || e != api.OK {
			t.Errorf("Plan(%v): %v, %d; want %v", x.g, p, e, x.p)
		}
		if n := geom.Nodes(x.g); n != x.nodes {
			t.Errorf("Nodes(%v): %d; want %d", x.g, n, x.nodes)
		}
	}
}

// 6.1: each number of each geometry is what is counted.
func TestPlanIsWhatIsCounted(t *testing.T) {
	for g := range all {
		want, nodes := plan(g)
		if p, e := geom.Plan(g); p != want || e != api.OK {
			t.Errorf("Plan(%v): %v, %d; want %v", g, p, e, want)
		}
		if n := geom.Nodes(g); n != nodes {
			t.Errorf("Nodes(%v): %d; want %d", g, n, nodes)
		}
	}
}

// 6.2: each page stands in the block that is counted, and each block begins where the one ahead ends.
func TestPagesAndBlocks(t *testing.T) {
	for g := range all {
		page := 0
		for block := range g.Blocks {
			if f := geom.First(g, block); f != page {
				t.Errorf("First(%v, %d): %d; want %d", g, block, f, page)
			}
			for range g.Pages {
				if b := geom.Block(g, page); b != block {
					t.Errorf("Block(%v, %d): %d; want %d", g, page, b, block)
				}
				page++
			}
		}
	}
}

// 6.2: there is no page and no block beyond the ends.
func TestBeyondTheEnds(t *testing.T) {
	for g := range all {
		pages := g.Blocks * g.Pages
		for _, page := range []int{-1, -2, -g.Pages, math.MinInt, pages, pages + 1, pages + g.Pages, 1 << 32, math.MaxInt} {
			if b := geom.Block(g, page); b != -1 {
				t.Errorf("Block(%v, %d): %d; want -1", g, page, b)
			}
		}
		for _, block := range []int{-1, -2, math.MinInt, g.Blocks, g.Blocks + 1, pages - 1, 1 << 61, 1<<61 + 1, math.MaxInt} {
			if f := geom.First(g, block); f != -1 {
				t.Errorf("First(%v, %d): %d; want -1", g, block, f)
			}
		}
	}
}

// of is the plan of a geometry that may be.
func of(t *testing.T, g api.Geometry) api.Plan {
	t.Helper()
	p, e := geom.Plan(g)
	if e != api.OK {
		t.Fatalf("Plan(%v): %d", g, e)
	}
	return p
}

// 6.3: the capacity is 5 or more; what is left without the spare and the high mark holds it, the nodes and one more page.
func TestWhatIsLeftHoldsAll(t *testing.T) {
	for g := range all {
		p := of(t, g)
		if p.Capacity < 5 {
			t.Errorf("%v: capacity %d", g, p.Capacity)
		}
		left := (g.Blocks - p.Spare - p.High) * g.Pages
		if left < p.Capacity+geom.Nodes(g)+1 {
			t.Errorf("%v: %d pages are left for %d sectors and %d nodes", g, left, p.Capacity, geom.Nodes(g))
		}
	}
}

// 6.3: a block more, or a page more in each, never gives less capacity.
func TestMoreGivesNoLess(t *testing.T) {
	for g := range all {
		for _, more := range []api.Geometry{{Blocks: g.Blocks + 1, Pages: g.Pages}, {Blocks: g.Blocks, Pages: g.Pages + 1}} {
			if more.Blocks > 64 || more.Pages > 32 {
				continue
			}
			if a, b := of(t, g).Capacity, of(t, more).Capacity; b < a {
				t.Errorf("%v has %d sectors, %v has %d", g, a, more, b)
			}
		}
	}
}
