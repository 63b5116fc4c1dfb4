package tree

import (
	"cmp"
	"slices"

	"scoria/api"
)

// change is what an Over or a Cut comes to: the extents that begin from the sector first to last give way to others; where none gives way, both are where the first new one begins.
type change struct {
	first int
	last  int
	exts  []api.Ext
}

// between is the change from a list to another one, and whether they differ.
func between(was, now []api.Ext) (change, bool) {
	for len(was) > 0 && len(now) > 0 && was[0] == now[0] {
		was, now = was[1:], now[1:]
	}
	for len(was) > 0 && len(now) > 0 && was[len(was)-1] == now[len(now)-1] {
		was, now = was[:len(was)-1], now[:len(now)-1]
	}
	switch {
	case len(was) > 0:
		return change{was[0].From, was[len(was)-1].From, now}, true
	case len(now) > 0:
		return change{now[0].From, now[0].From, now}, true
	}
	return change{}, false
}

// ahead is how many of the extents begin ahead of a sector.
func ahead(l []api.Ext, sector int) int {
	place, _ := slices.BinarySearchFunc(l, sector, func(e api.Ext, sector int) int {
		return cmp.Compare(e.From, sector)
	})
	return place
}

// of are the nodes, of its height, that take a node's place. Of several none is too small; one alone may be, and its only kid, too.
func (c change) of(n node) []node {
	switch n := n.(type) {
	case nil:
		return leaves(c.exts)
	case *bottom:
		return leaves(slices.Concat(n.exts[:ahead(n.exts, c.first)], c.exts, n.exts[ahead(n.exts, c.last+1):]))
	case *inner:
		from, to := n.under(c.first), n.under(c.last)
		return inners(mended(slices.Concat(n.kids[:from], c.across(n.kids[from:to+1]), n.kids[to+1:])))
	}
	return nil
}

// across are the nodes that take the place of those in which extents give way: the first and the last one of them, as all between are gone.
func (c change) across(l []node) []node {
	if len(l) == 1 {
		return c.of(l[0])
	}
	// Each extent goes to the node under which its sectors stood: so both keep as much as they can.
	last := l[len(l)-1]
	cut := ahead(c.exts, last.first())
	left := change{c.first, c.last, c.exts[:cut]}
	right := change{c.first, c.last, c.exts[cut:]}
	return slices.Concat(left.of(l[0]), right.of(last))
}

// topOf is the top of the tree that has these nodes of one height.
func topOf(l []node) node {
	if len(l) == 0 {
		return nil
	}
	for len(l) > 1 {
		l = inners(l)
	}
	top := l[0]
	for {
		n, ok := top.(*inner)
		if !ok || n.size() > 1 {
			return top
		}
		top = n.kids[0]
	}
}

// moved makes the node fresh that is written in a page, and those above it; it tells whether there is one.
func moved(n node, page int) bool {
	at := func(kid node) bool { return moved(kid, page) }
	if n.page() != page && !slices.ContainsFunc(n.below(), at) {
		return false
	}
	n.stand(none)
	return true
}
