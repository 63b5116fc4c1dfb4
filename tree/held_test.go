package tree_test

import (
	"maps"
	"math"
	"slices"
	"testing"

	"scoria/api"
	"scoria/ext"
	"scoria/fault"
	"scoria/leaf"
	"scoria/tree"
)

// The bounds, as the document has them.
const (
	sectorBound = 16777216
	pageBound   = 2048
)

func zero(from, n int) api.Ext {
	return api.Ext{From: from, N: n, Kind: api.ExtZero}
}

func run(from, n, at int) api.Ext {
	return api.Ext{From: from, N: n, Kind: api.ExtRun, At: at}
}

// said is what a page says.
type said struct {
	kind int
	key  int
	body string
}

// flash is pages that nodes are put into; those that are busy are passed over.
type flash struct {
	pages map[int]said
	busy  map[int]bool
	next  int
	puts  []int
	good  int // so many puts more go well
}

func newFlash() *flash {
	return &flash{pages: map[int]said{}, busy: map[int]bool{}, good: math.MaxInt}
}

func (f *flash) put(kind, key int, body string) (int, error) {
	if f.good == 0 {
		return 77, api.ErrSpace
	}
	f.good--
	for f.busy[f.next] {
		f.next = (f.next + 1) % pageBound
	}
	page := f.next
	f.pages[page] = said{kind, key, body}
	f.busy[page] = true
	f.puts = append(f.puts, page)
	return page, nil
}

func (f *flash) get(page int) (kind int, body string, err error) {
	s, ok := f.pages[page]
	if !ok {
		return 5, "junk", api.ErrBlank
	}
	return s.kind, s.body, nil
}

// seen is a node, as its page says it.
type seen struct {
	page int
	high int
	said said
	exts []api.Ext
	kids []api.Kid
}

func (n seen) size() int {
	return len(n.exts) + len(n.kids)
}

// look is all nodes that the pages say from a top on, kids ahead of the node above them, those on the left first; each is looked at.
func (f *flash) look(t *testing.T, top, high, least int) []seen {
	t.Helper()
	n := seen{page: top, high: high, said: f.pages[top]}
	var all []seen
	e := api.OK
	if high == 1 {
		n.exts, e = leaf.ReadLeaf(n.said.body)
	} else {
		n.kids, e = leaf.ReadInner(n.said.body)
	}
	for _, k := range n.kids {
		if key := f.pages[k.At].key; key != k.Key {
			t.Errorf("page %d: its first sector is %d; the node above it has %d", k.At, key, k.Key)
		}
		all = append(all, f.look(t, k.At, high-1, 4)...)
	}
	if e != api.OK || n.size() < least || n.size() > 8 || n.said.kind != kindAt(high) || n.said.key != n.first() {
		t.Fatalf("page %d, height %d: %+v, error %d; want %d to 8 there", top, high, n, e, least)
	}
	return append(all, n)
}

func (n seen) first() int {
	if n.high == 1 {
		return n.exts[0].From
	}
	return n.kids[0].Key
}

func kindAt(high int) int {
	if high == 1 {
		return api.PageLeaf
	}
	return api.PageInner
}

// leastTop is how many extents or kids the top of a tree of a height has at the least.
func leastTop(high int) int {
	return min(high, 2)
}

// of are the nodes of a height, from left to right.
func of(nodes []seen, high int) []seen {
	return slices.DeleteFunc(slices.Clone(nodes), func(n seen) bool { return n.high != high })
}

func pagesOf(nodes []seen) []int {
	var pages []int
	for _, n := range nodes {
		pages = append(pages, n.page)
	}
	return pages
}

func sorted(l []int) []int {
	return slices.Sorted(slices.Values(l))
}

func extsOf(nodes []seen) []api.Ext {
	var l []api.Ext
	for _, n := range of(nodes, 1) {
		l = append(l, n.exts...)
	}
	return l
}

// held is a tree beside the list that it is to have, and the pages it is written to.
type held struct {
	*testing.T
	tree  *tree.Tree
	list  []api.Ext
	flash *flash
}

func hold(t *testing.T) *held {
	return &held{t, tree.New(), nil, newFlash()}
}

// holdAll is a tree over which extents were laid, one by one.
func holdAll(t *testing.T, l []api.Ext) *held {
	t.Helper()
	h := hold(t)
	for _, e := range l {
		h.over(e)
	}
	return h
}

// over and cut do a thing to the tree and to the list, which may be refused by both.
func (h *held) over(e api.Ext) {
	h.Helper()
	want, wantE := ext.Over(h.list, e)
	h.is("Over", h.tree.Over(e), want, wantE)
}

func (h *held) cut(from, n int) {
	h.Helper()
	want, wantE := ext.Cut(h.list, from, n)
	h.is("Cut", h.tree.Cut(from, n), want, wantE)
}

func (h *held) is(what string, e api.Errno, want []api.Ext, wantE api.Errno) {
	h.Helper()
	if wantE == api.OK {
		h.list = want
	}
	if e != wantE {
		h.Fatalf("%s: %d; want %d", what, e, wantE)
	}
	if got := h.tree.All(); !slices.Equal(got, h.list) {
		h.Fatalf("%s: the tree has %v; want %v", what, got, h.list)
	}
}

// says looks at what the tree says of some sectors and ranges.
func (h *held) says(sectors []int) {
	h.Helper()
	if h.tree.Count() != ext.Count(h.list) {
		h.Errorf("Count: %d; want %d", h.tree.Count(), ext.Count(h.list))
	}
	for _, s := range sectors {
		kind, at := h.tree.Find(s)
		if wantKind, wantAt := ext.Find(h.list, s); kind != wantKind || at != wantAt {
			h.Errorf("Find(%d): %d, %d; want %d, %d", s, kind, at, wantKind, wantAt)
		}
	}
	for i, s := range sectors {
		h.clips(s, sectors[len(sectors)-1-i]-s)
		h.clips(s, i)
	}
}

func (h *held) clips(from, n int) {
	h.Helper()
	got, e := h.tree.Clip(from, n)
	want, wantE := ext.Clip(h.list, from, n)
	if e != wantE || !slices.Equal(got, want) || e != api.OK && got != nil {
		h.Errorf("Clip(%d, %d): %v, %d; want %v, %d", from, n, got, e, want, wantE)
	}
}

// edges are the sectors at the edges of all extents, and at and beyond those of all.
func (h *held) edges() []int {
	l := []int{math.MinInt, -1, 0, 1, sectorBound - 1, sectorBound, sectorBound + 1, math.MaxInt}
	for _, e := range h.list {
		l = append(l, e.From-1, e.From, e.From+e.N-1, e.From+e.N)
	}
	return l
}

// write writes the tree, looks at what was put, and answers the nodes.
func (h *held) write() []seen {
	h.Helper()
	f := h.flash
	for _, page := range h.tree.Pages() {
		f.busy[page] = true
	}
	fresh, stay := h.tree.Fresh(), h.tree.Pages()
	f.puts = nil
	top, err := h.tree.Write(f.put)
	if err != nil || len(f.puts) != fresh {
		h.Fatalf("Write: %v, with %d puts; want %d", err, len(f.puts), fresh)
	}
	return h.written(top, stay)
}

// written looks at a tree that was just written: it puts what was fresh, and only that, each node once, in order.
func (h *held) written(top int, stay []int) []seen {
	h.Helper()
	high := h.tree.Height()
	if len(h.list) == 0 {
		if top != -1 || high != 0 || h.tree.Nodes() != 0 || h.tree.Fresh() != 0 || h.tree.Pages() != nil {
			h.Fatalf("an empty tree: top %d, height %d, %d nodes, %d fresh, pages %v", top, high, h.tree.Nodes(), h.tree.Fresh(), h.tree.Pages())
		}
		return nil
	}
	nodes := h.flash.look(h.T, top, high, leastTop(high))
	pages := pagesOf(nodes)
	if !slices.Equal(extsOf(nodes), h.list) {
		h.Fatalf("the pages say %v; want %v", extsOf(nodes), h.list)
	}
	if h.tree.Nodes() != len(nodes) || h.tree.Fresh() != 0 || !slices.Equal(h.tree.Pages(), sorted(pages)) {
		h.Fatalf("%d nodes, %d fresh, pages %v; want %v", h.tree.Nodes(), h.tree.Fresh(), h.tree.Pages(), sorted(pages))
	}
	put := slices.DeleteFunc(pages, func(page int) bool { return slices.Contains(stay, page) })
	if !slices.Equal(h.flash.puts, put) {
		h.Fatalf("put in the order %v; want %v", h.flash.puts, put)
	}
	return nodes
}

// reads looks at a tree that is read: it is the one of these nodes, and written already.
func reads(t *testing.T, top, high int, get func(int) (int, string, error), nodes []seen) *tree.Tree {
	t.Helper()
	got, err := tree.Read(top, high, get)
	if err != nil {
		t.Fatalf("Read(%d, %d): %v", top, high, err)
	}
	if !slices.Equal(got.All(), extsOf(nodes)) || got.Height() != high || got.Nodes() != len(nodes) || got.Fresh() != 0 || !slices.Equal(got.Pages(), sorted(pagesOf(nodes))) {
		t.Fatalf("Read(%d, %d): %v, height %d, %d nodes, %d fresh, pages %v", top, high, got.All(), got.Height(), got.Nodes(), got.Fresh(), got.Pages())
	}
	again, err := got.Write(func(int, int, string) (int, error) {
		t.Fatalf("what was read is put again")
		return 0, nil
	})
	if again != top || err != nil {
		t.Fatalf("Write of what was read: %d, %v; want %d", again, err, top)
	}
	return got
}

// read is the tree of these nodes of the same flash, read anew.
func (h *held) read(nodes []seen) *held {
	h.Helper()
	f := newFlash()
	f.pages = maps.Clone(h.flash.pages)
	top := nodes[len(nodes)-1]
	return &held{h.T, reads(h.T, top.page, top.high, f.get, nodes), extsOf(nodes), f}
}

// fails looks at an error: its number and its one step.
func fails(t *testing.T, what string, err error, op string, at int, e api.Errno) {
	t.Helper()
	if fault.Code(err) != e || !slices.Equal(fault.Trail(err), []api.Step{{Op: op, At: at}}) {
		t.Errorf("%s: %v; want %s %d: %d", what, err, op, at, e)
	}
}

// singles are so many single sectors, with holes between them, in runs and zeros.
func singles(count int) []api.Ext {
	var l []api.Ext
	for i := range count {
		if i%3 == 0 {
			l = append(l, run(2*i, 1, i%pageBound))
		} else {
			l = append(l, zero(2*i, 1))
		}
	}
	return l
}

// draw is a source of numbers that are the same each time.
type draw uint64

func (d *draw) below(n int) int {
	*d = *d*6364136223846793005 + 1442695040888963407
	return int(*d>>33) % n
}

// shuffled is a list in some order.
func (d *draw) shuffled(l []api.Ext) []api.Ext {
	l = slices.Clone(l)
	for i := range l {
		j := d.below(i + 1)
		l[i], l[j] = l[j], l[i]
	}
	return l
}
