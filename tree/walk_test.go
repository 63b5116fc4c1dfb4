package tree_test

import (
	"slices"
	"testing"

	"scoria/api"
)

// area is the part of all sectors that a walk goes over.
type area struct {
	first   int
	sectors int
}

// part is a range there: of few sectors, or, seldom, of many; sometimes of none.
func (a area) part(d *draw) (from, n int) {
	most := 4
	if d.below(150) == 0 {
		most = a.sectors
	}
	from = d.below(a.sectors)
	return a.first + from, min(d.below(most+1), a.sectors-from)
}

// beside is a range that lies before, within, across, around or behind an extent.
func (a area) beside(d *draw, e api.Ext) (from, n int) {
	from = e.From - 2 + d.below(e.N+4)
	from = max(from, a.first)
	n = d.below(e.From + e.N + 3 - from + 1)
	return from, min(n, a.first+a.sectors-from)
}

// step does something to a tree; it may be what may not be done.
func (a area) step(h *held, d *draw) {
	h.Helper()
	from, n := a.part(d)
	if len(h.list) > 0 && d.below(2) == 0 {
		from, n = a.beside(d, h.list[d.below(len(h.list))])
	}
	switch d.below(10) {
	case 0, 1, 2:
		h.cut(from, n)
	case 3, 4:
		h.over(zero(from, n))
	case 5:
		if len(h.list) > 0 {
			h.over(h.list[d.below(len(h.list))])
		}
	case 6:
		h.over(run(from, n, pageBound-d.below(4)))
	default:
		// Often where another run would go on, so that they go together.
		h.over(run(from, n, (from-a.first)%500+3*d.below(2)))
	}
}

// 10.1, 10.2, 10.3, 10.5: a tree on a long walk, held against a list, and written now and then.
func TestWalks(t *testing.T) {
	for i, a := range []area{{0, 20}, {0, 90}, {1000, 400}, {sectorBound - 2500, 2500}} {
		d := draw(i)
		h := hold(t)
		for step := range 3000 {
			a.step(h, &d)
			if step%50 == 0 {
				h.says(h.edges())
			}
			if d.below(4) == 0 {
				h.flash.busy = map[int]bool{}
				h.write()
			}
		}
		h.write()
		h.says(h.edges())
	}
}

// 10.1, 10.2, 10.5: a tree that is written behind each step: only the nodes that are to be are fresh.
func TestSpread(t *testing.T) {
	for i, a := range []area{{0, 60}, {0, 200}, {sectorBound - 1500, 1500}} {
		d := draw(100 + i)
		h := hold(t)
		for range 1500 {
			h.flash.busy = map[int]bool{}
			before := h.write()
			a.step(h, &d)
			h.spread(before)
		}
	}
}

// without is what of a list another one does not have.
func without[T comparable](l, other []T) []T {
	has := map[T]bool{}
	for _, x := range other {
		has[x] = true
	}
	return slices.DeleteFunc(slices.Clone(l), func(x T) bool { return has[x] })
}

// hits tells of each leaf that stood there whether what was done last changes it: one of its extents is there no more, or, if all of all leaves are, the new one begins under it.
func (h *held) hits(leaves []seen) []bool {
	hit := make([]bool, len(leaves))
	added := without(h.list, extsOf(leaves))
	for i, n := range leaves {
		hit[i] = len(without(n.exts, h.list)) > 0
	}
	if !slices.Contains(hit, true) && len(added) > 0 && len(leaves) > 0 {
		hit[leafUnder(leaves, added[0].From)] = true
	}
	return hit
}

// leafUnder is the place of the last leaf that does not begin behind a sector; the first one, if all do.
func leafUnder(leaves []seen, sector int) int {
	place := 0
	for i, n := range leaves {
		if n.first() <= sector {
			place = i
		}
	}
	return place
}

// poor tells of each leaf that is hit whether too few or too many extents are left to it: those of its own that are still there, and the new ones that begin under it, or, for the first one that is hit, ahead of it.
func (h *held) poor(leaves []seen, hit []bool) []bool {
	counts := make([]int, len(leaves))
	for _, e := range without(h.list, extsOf(leaves)) {
		counts[max(leafUnder(leaves, e.From), slices.Index(hit, true))]++
	}
	poor := make([]bool, len(leaves))
	for i, n := range leaves {
		counts[i] += len(n.exts) - len(without(n.exts, h.list))
		poor[i] = hit[i] && (counts[i] < 4 || counts[i] > 8)
	}
	return poor
}

// anyBeside tells whether one of the places beside one says so.
func anyBeside(l []bool, i int) bool {
	return i > 0 && l[i-1] || i+1 < len(l) && l[i+1]
}

// spread looks at which nodes are fresh of a tree that was written ahead of what was done last: leaves that are hit, and those beside such a one that became too small or too great; inner nodes above nodes that are fresh, and those beside them. Few are.
func (h *held) spread(before []seen) {
	h.Helper()
	if len(before) == 0 {
		return
	}
	stay := h.tree.Pages()
	gone := func(n seen) bool { return !slices.Contains(stay, n.page) }
	leaves := of(before, 1)
	hit := h.hits(leaves)
	poor := h.poor(leaves, hit)
	hits := 0
	for i, n := range leaves {
		if hit[i] {
			hits++
		}
		if hit[i] && !gone(n) || gone(n) && !hit[i] && !anyBeside(poor, i) {
			h.Fatalf("the leaf from %d on in page %d: gone %t, hit %t", n.first(), n.page, gone(n), hit[i])
		}
	}
	h.spreadAbove(before, gone)
	// With one leaf hit it and one beside it are fresh at each height, and a new top; with more, as many on both sides.
	high := before[len(before)-1].high
	if most := 2*high*min(hits, 2) + min(hits, 1); h.tree.Fresh() > most {
		h.Fatalf("%d leaves hit, %d nodes fresh of a height of %d", hits, h.tree.Fresh(), high)
	}
}

// spreadAbove looks at the inner nodes.
func (h *held) spreadAbove(before []seen, gone func(seen) bool) {
	h.Helper()
	byPage := map[int]seen{}
	for _, n := range before {
		byPage[n.page] = n
	}
	for high := 2; len(of(before, high)) > 0; high++ {
		row := of(before, high)
		over := make([]bool, len(row))
		for i, n := range row {
			over[i] = slices.ContainsFunc(n.kids, func(k api.Kid) bool { return gone(byPage[k.At]) })
		}
		for i, n := range row {
			if over[i] && !gone(n) || gone(n) && !over[i] && !anyBeside(over, i) {
				h.Fatalf("the inner node in page %d: gone %t, over one that is %t", n.page, gone(n), over[i])
			}
		}
	}
}
