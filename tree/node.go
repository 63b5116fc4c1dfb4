package tree

import (
	"slices"

	"scoria/api"
	"scoria/ext"
	"scoria/leaf"
)

// none is the page of a node that is fresh, and of the top where there is none.
const none = -1

// node is a leaf or an inner node. What it has is never changed: another node takes its place.
type node interface {
	// first is its first sector.
	first() int
	// size is how many extents, or kids, it has.
	size() int
	// below are its kids, none of a leaf's.
	below() []node
	// bytes are its kind of page, and what that says.
	bytes() (kind int, body string, e api.Errno)
	// page is where it is written, or none.
	page() int
	// stand lets it be written in a page, or be fresh.
	stand(page int)
}

// spot is where a node stands.
type spot struct {
	at int
}

func (s *spot) page() int {
	return s.at
}

func (s *spot) stand(page int) {
	s.at = page
}

func isFresh(n node) bool {
	return n.page() == none
}

// bottom is a leaf.
type bottom struct {
	spot
	exts []api.Ext
}

func (b *bottom) first() int {
	return b.exts[0].From
}

func (b *bottom) size() int {
	return len(b.exts)
}

func (b *bottom) below() []node {
	return nil
}

func (b *bottom) bytes() (kind int, body string, e api.Errno) {
	body, e = leaf.Leaf(b.exts)
	return api.PageLeaf, body, e
}

// inner is an inner node.
type inner struct {
	spot
	kids []node
}

func (n *inner) first() int {
	return n.kids[0].first()
}

func (n *inner) size() int {
	return len(n.kids)
}

func (n *inner) below() []node {
	return n.kids
}

func (n *inner) bytes() (kind int, body string, e api.Errno) {
	body, e = leaf.Inner(n.list())
	return api.PageInner, body, e
}

// list is what its page says of its kids.
func (n *inner) list() []api.Kid {
	var l []api.Kid
	for _, kid := range n.kids {
		l = append(l, api.Kid{Key: kid.first(), At: kid.page()})
	}
	return l
}

// under is the place of the kid that has a sector, if one has it.
func (n *inner) under(sector int) int {
	return leaf.Under(n.list(), sector)
}

// each shows a node and all below it to a function.
func each(n node, see func(node)) {
	see(n)
	for _, kid := range n.below() {
		each(kid, see)
	}
}

// find is what a node says of a sector.
func find(n node, sector int) (kind, at int) {
	switch n := n.(type) {
	case *bottom:
		return ext.Find(n.exts, sector)
	case *inner:
		return find(n.kids[n.under(sector)], sector)
	}
	return api.Hole, 0
}

// touching puts behind a list the extents of a node that have a sector of a range, or end where it begins, or begin where it ends.
func touching(l []api.Ext, n node, from, end int) []api.Ext {
	switch n := n.(type) {
	case *bottom:
		for _, e := range n.exts {
			if e.From+e.N >= from && e.From <= end {
				l = append(l, e)
			}
		}
	case *inner:
		// What ends where the range begins stands under the sector ahead of it.
		for _, kid := range n.kids[n.under(from-1) : n.under(end)+1] {
			l = touching(l, kid, from, end)
		}
	}
	return l
}

// parts cuts a list into as few parts as can be nodes, which are as alike as can be: two or more of them are never too small.
func parts[T any](l []T) [][]T {
	count := (len(l) + api.MaxLeaf - 1) / api.MaxLeaf
	var cut [][]T
	for i := range count {
		from, end := len(l)*i/count, len(l)*(i+1)/count
		// The third index keeps what is put behind one part out of the next.
		cut = append(cut, l[from:end:end])
	}
	return cut
}

// leaves are fresh leaves that have these extents.
func leaves(l []api.Ext) []node {
	var nodes []node
	for _, part := range parts(l) {
		nodes = append(nodes, &bottom{spot{none}, part})
	}
	return nodes
}

// inners are fresh inner nodes that have these kids.
func inners(l []node) []node {
	var nodes []node
	for _, part := range parts(l) {
		nodes = append(nodes, &inner{spot{none}, part})
	}
	return nodes
}

// joined are the fresh nodes that have what two nodes of one height have, one behind the other.
func joined(a, b node) []node {
	if a, ok := a.(*bottom); ok {
		return leaves(slices.Concat(a.exts, b.(*bottom).exts))
	}
	return inners(mended(slices.Concat(a.below(), b.below())))
}

// mended are nodes of one height in which each that is too small is joined with one next to it; one alone stays as it is. The list handed in is used up.
func mended(l []node) []node {
	for i := 0; i < len(l) && len(l) > 1; {
		if l[i].size() >= api.MinLeaf {
			i++
			continue
		}
		i = pair(l, i)
		l = slices.Replace(l, i, i+2, joined(l[i], l[i+1])...)
	}
	return l
}

// pair is the place of the first of the two that are joined if one is too small.
func pair(l []node, small int) int {
	left, right := small-1, small+1
	if left < 0 {
		return small
	}
	// One that is fresh already is joined at no cost.
	if right < len(l) && isFresh(l[right]) && !isFresh(l[left]) {
		return small
	}
	return left
}
