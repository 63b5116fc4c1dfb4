package tree_test

import (
	"errors"
	"maps"
	"math"
	"slices"
	"testing"

	"scoria/api"
	"scoria/fault"
	"scoria/leaf"
	"scoria/tree"
)

// 10.3: what each put is handed, of a tree of one leaf.
func TestWriteOfOneLeaf(t *testing.T) {
	n := tree.New()
	n.Over(run(3, 2, 7))
	puts := 0
	top, err := n.Write(func(kind, key int, body string) (int, error) {
		puts++
		if kind != api.PageLeaf || key != 3 || body != "\x01\x03\x00\x00\x02\x00\x00\x00\x02\x07\x00" {
			t.Errorf("put: %d, %d, % x", kind, key, body)
		}
		return 1234, nil
	})
	if top != 1234 || err != nil || puts != 1 || !slices.Equal(n.Pages(), []int{1234}) {
		t.Errorf("Write: %d, %v, %d puts, pages %v", top, err, puts, n.Pages())
	}
}

// 10.3: of a tree of two leaves, with what its top says of them.
func TestWriteOfTwoLeaves(t *testing.T) {
	h := holdAll(t, singles(9))
	h.flash.next = 258
	h.write()
	want := []said{
		{api.PageLeaf, 0, bytesOf(t, singles(9)[:4])},
		{api.PageLeaf, 8, bytesOf(t, singles(9)[4:])},
		{api.PageInner, 0, "\x02\x00\x00\x00\x02\x01\x08\x00\x00\x03\x01"},
	}
	for i, s := range want {
		if h.flash.pages[258+i] != s {
			t.Errorf("page %d: %+v; want %+v", 258+i, h.flash.pages[258+i], s)
		}
	}
}

func bytesOf(t *testing.T, l []api.Ext) string {
	t.Helper()
	s, e := leaf.Leaf(l)
	if e != api.OK {
		t.Fatalf("Leaf(%v): %d", l, e)
	}
	return s
}

// 10.3: with no node fresh nothing is put, and the top is told.
func TestWriteAgain(t *testing.T) {
	for _, count := range []int{1, 9, 100} {
		h := holdAll(t, singles(count))
		top := h.write()
		for range 2 {
			if again := h.write(); !slices.Equal(pagesOf(again), pagesOf(top)) || h.flash.puts != nil {
				t.Errorf("put again: %v", h.flash.puts)
			}
		}
	}
}

// 10.3: a put that fails, at each place: what was put ahead stays written, and the rest is put behind it.
func TestPutFails(t *testing.T) {
	for _, count := range []int{1, 8, 9, 50, 200} {
		h := holdAll(t, singles(count))
		nodes := h.write()
		for i, n := range nodes {
			failsAt(t, count, i, n.said.key)
		}
	}
}

func failsAt(t *testing.T, count, good, key int) {
	t.Helper()
	h := holdAll(t, singles(count))
	total := h.tree.Nodes()
	for range 2 {
		h.flash.good = good - len(h.flash.puts)
		top, err := h.tree.Write(h.flash.put)
		fails(t, "Write", err, "write", key, api.ErrSpace)
		if top != 0 || len(h.flash.puts) != good || h.tree.Fresh() != total-good || !slices.Equal(h.tree.Pages(), sorted(h.flash.puts)) {
			t.Fatalf("%d of %d puts go well: top %d, put %v, %d fresh, pages %v", good, total, top, h.flash.puts, h.tree.Fresh(), h.tree.Pages())
		}
	}
	ahead := h.flash.puts
	h.flash.good = math.MaxInt
	nodes := h.write()
	if !slices.Equal(slices.Concat(ahead, h.flash.puts), pagesOf(nodes)) {
		t.Fatalf("put %v, and behind it %v; want %v", ahead, h.flash.puts, pagesOf(nodes))
	}
}

// 10.3: a put that fails when a part of the tree is written; then that is changed again.
func TestPutFailsNowAndThen(t *testing.T) {
	d := draw(5)
	a := area{0, 300}
	h := hold(t)
	for range 1500 {
		a.step(h, &d)
		h.flash.busy = map[int]bool{}
		for _, page := range h.tree.Pages() {
			h.flash.busy[page] = true
		}
		stay, fresh := h.tree.Pages(), h.tree.Fresh()
		h.flash.puts, h.flash.good = nil, d.below(8)
		top, err := h.tree.Write(h.flash.put)
		if len(h.flash.puts) == fresh && err == nil {
			h.written(top, stay)
			continue
		}
		if top != 0 || !fault.Has(err, api.ErrSpace) || h.tree.Fresh() != fresh-len(h.flash.puts) || !slices.Equal(h.tree.Pages(), sorted(slices.Concat(stay, h.flash.puts))) {
			t.Fatalf("top %d, %v, %d of %d still fresh, pages %v", top, err, h.tree.Fresh(), fresh, h.tree.Pages())
		}
	}
	h.flash.good = math.MaxInt
	h.write()
}

// 10.3: an error of put is handed on, also one that is no api.Errno.
func TestErrorOfPut(t *testing.T) {
	other := errors.New("other")
	for _, err := range []error{api.ErrDown, other, fault.Wrap("append", 3, api.ErrWorn), api.OK} {
		h := holdAll(t, singles(3))
		top, got := h.tree.Write(func(int, int, string) (int, error) { return 5, err })
		if trail := fault.Trail(got); top != 0 || !errors.Is(got, err) || len(trail) == 0 || (trail[0] != api.Step{Op: "write"}) || errors.Unwrap(got) != err || h.tree.Fresh() != 1 {
			t.Errorf("Write: %d, %v", top, got)
		}
	}
}

// R1: a put or a get that is nil is an error, if there is something to put or to get.
func TestNilFunctions(t *testing.T) {
	if top, err := tree.New().Write(nil); top != -1 || err != nil {
		t.Errorf("Write: %d, %v", top, err)
	}
	h := holdAll(t, singles(20))
	top, err := h.tree.Write(nil)
	if top != 0 || err == nil || h.tree.Fresh() != h.tree.Nodes() {
		t.Errorf("Write: %d, %v", top, err)
	}
	nodes := h.write()
	if top, err := h.tree.Write(nil); top != nodes[len(nodes)-1].page || err != nil {
		t.Errorf("Write of what is written: %d, %v", top, err)
	}
	if n, err := tree.Read(-1, 0, nil); err != nil || n.Nodes() != 0 {
		t.Errorf("Read of nothing: %v", err)
	}
	if n, err := tree.Read(3, 1, nil); n != nil || err == nil {
		t.Errorf("Read: %v, %v", n, err)
	}
	if n, err := tree.Read(3, 0, nil); n != nil || !fault.Has(err, api.ErrArg) {
		t.Errorf("Read: %v, %v", n, err)
	}
}

// R1: a put that answers pages that may not be, or one again and again, makes no panic, and is never handed what is no node's bytes.
func TestPutOfNoPages(t *testing.T) {
	for _, page := range []int{-1, -2, 0, pageBound, math.MinInt, math.MaxInt} {
		h := holdAll(t, singles(50))
		top, err := h.tree.Write(func(kind, _ int, body string) (int, error) {
			if kind != api.PageLeaf || body == "" {
				t.Errorf("put: %d, % x", kind, body)
			}
			return page, nil
		})
		if top != 0 || fault.Code(err) != api.ErrArg {
			t.Errorf("put answers %d: %d, %v", page, top, err)
		}
		h.is("behind it", api.OK, h.list, api.OK)
	}
}

// 10.4, 10.5: each tree that was written can be read as it was, whatever was done since; what is read goes on as the tree that was written.
func TestReadOfAllThatWasWritten(t *testing.T) {
	for i, a := range []area{{0, 40}, {0, 300}, {sectorBound - 300, 300}} {
		if all := tops(t, draw(i), a); len(all) < 20 {
			t.Errorf("only %d trees", len(all))
		}
	}
}

// tops walks as long as there are pages that nothing stands in, and reads all trees again and again; it answers their nodes.
func tops(t *testing.T, d draw, a area) [][]seen {
	t.Helper()
	h := hold(t)
	var all [][]seen
	for len(h.flash.busy)+h.tree.Nodes()+20 < pageBound {
		for range 5 {
			a.step(h, &d)
		}
		if h.tree.Fresh() == 0 {
			continue
		}
		nodes := h.write()
		if len(nodes) == 0 {
			continue
		}
		all = append(all, nodes)
		read := h.read(nodes)
		if d.below(2) == 0 {
			h.tree = read.tree
		}
	}
	for _, nodes := range all {
		then := h.read(nodes)
		then.says(then.edges())
	}
	return all
}

// 10.4: each node is gotten once, from the top on, those on the left first; one that can not be gotten is the last one.
func TestGets(t *testing.T) {
	for _, count := range []int{1, 9, 100, 200} {
		h := holdAll(t, singles(count))
		nodes := h.write()
		top := nodes[len(nodes)-1]
		var order []int
		down(nodes, top, func(n seen) { order = append(order, n.page) })
		for bad := range len(order) + 1 {
			var gets []int
			n, err := tree.Read(top.page, top.high, func(page int) (int, string, error) {
				gets = append(gets, page)
				if len(gets) == bad+1 {
					return api.PageLeaf, h.flash.pages[page].body, api.ErrDown
				}
				return h.flash.get(page)
			})
			if !slices.Equal(gets, order[:min(bad+1, len(order))]) {
				t.Fatalf("gotten: %v; want %v", gets, order)
			}
			if bad == len(order) {
				continue
			}
			fails(t, "Read", err, "read", order[bad], api.ErrDown)
			if n != nil {
				t.Fatalf("beside an error: %v", n)
			}
		}
	}
}

// down sees a node and those below it, each ahead of those below it.
func down(nodes []seen, n seen, see func(seen)) {
	see(n)
	for _, k := range n.kids {
		i := slices.IndexFunc(nodes, func(n seen) bool { return n.page == k.At })
		down(nodes, nodes[i], see)
	}
}

// 10.4: an error of get is wrapped as it is.
func TestErrorOfGet(t *testing.T) {
	for _, err := range []error{api.ErrBlank, errors.New("other"), fault.Wrap("read", 3, api.ErrSum)} {
		n, got := tree.Read(7, 2, func(int) (int, string, error) { return 0, "", err })
		if trail := fault.Trail(got); n != nil || errors.Unwrap(got) != err || (trail[0] != api.Step{Op: "read", At: 7}) {
			t.Errorf("Read: %v, %v", n, got)
		}
	}
}

// 10.4: tops and heights that may not be; nothing is gotten of them.
func TestNoTops(t *testing.T) {
	get := func(page int) (int, string, error) {
		t.Errorf("page %d is gotten", page)
		return 0, "", nil
	}
	for _, x := range [][2]int{{-1, 1}, {-1, 6}, {-1, 7}, {-1, -1}, {0, 0}, {5, 0}, {-2, 0}, {0, -1}, {5, -1}, {5, 7}, {5, 8}, {pageBound, 0}, {math.MinInt, 0}, {math.MaxInt, 0}, {3, math.MaxInt}, {3, math.MinInt}, {-1, math.MaxInt}, {-1, math.MinInt}} {
		n, err := tree.Read(x[0], x[1], get)
		fails(t, "Read", err, "read", x[0], api.ErrArg)
		if n != nil {
			t.Errorf("Read(%d, %d): %v", x[0], x[1], n)
		}
	}
	n, err := tree.Read(-1, 0, get)
	if err != nil || n == nil || n.Height() != 0 || n.Nodes() != 0 || n.All() != nil {
		t.Errorf("Read(-1, 0): %v, %v", n, err)
	}
	if n.Over(zero(3, 1)) != api.OK || n.Nodes() != 1 {
		t.Errorf("an extent over it: %d nodes", n.Nodes())
	}
}

// 10.4: pages that are none are asked for as any others; it is get that says what they are.
func TestTopsThatAreNoPages(t *testing.T) {
	for _, top := range []int{-2, math.MinInt, pageBound, math.MaxInt} {
		for high := 1; high <= 6; high++ {
			n, err := tree.Read(top, high, newFlash().get)
			fails(t, "Read", err, "read", top, api.ErrBlank)
			if n != nil {
				t.Errorf("Read(%d, %d): %v", top, high, n)
			}
		}
	}
}

// 10.4: heights other than a tree's.
func TestOtherHeights(t *testing.T) {
	for _, count := range []int{1, 9, 50, 300} {
		h := holdAll(t, singles(count))
		nodes := h.write()
		top := nodes[len(nodes)-1]
		for high := 1; high <= 6; high++ {
			if high == top.high {
				reads(t, top.page, high, h.flash.get, nodes)
				continue
			}
			if n, err := tree.Read(top.page, high, h.flash.get); n != nil || fault.Code(err) != api.ErrForm {
				t.Errorf("%d extents, height %d for %d: %v, %v", count, high, top.high, n, err)
			}
		}
	}
}

// 10.4: the greatest height that can be read.
func TestTheGreatestHeight(t *testing.T) {
	h := hold(t)
	for i := 0; h.tree.Height() < 6; i++ {
		h.tree.Over(zero(2*i, 1))
	}
	h.list = h.tree.All()
	nodes := h.write()
	reads(t, nodes[len(nodes)-1].page, 6, h.flash.get, nodes)
}

// spoil is a way to spoil a page, and whether it is one for the node that stands there.
type spoil struct {
	what string
	of   func(t *testing.T, n seen) (said, bool)
}

func leafSaid(t *testing.T, n seen, l []api.Ext) (said, bool) {
	t.Helper()
	s, e := leaf.Leaf(l)
	return said{api.PageLeaf, n.said.key, s}, e == api.OK && n.high == 1
}

func innerSaid(t *testing.T, n seen, l []api.Kid) (said, bool) {
	t.Helper()
	s, e := leaf.Inner(l)
	return said{api.PageInner, n.said.key, s}, e == api.OK && n.high > 1
}

// spoils are the ways in which a page alone is spoilt.
func spoils() []spoil {
	l := []spoil{
		{"no bytes", func(_ *testing.T, n seen) (said, bool) { return said{n.said.kind, n.said.key, ""}, true }},
		{"cut off", func(_ *testing.T, n seen) (said, bool) {
			return said{n.said.kind, n.said.key, n.said.body[:len(n.said.body)-1]}, true
		}},
		{"one byte more", func(_ *testing.T, n seen) (said, bool) {
			return said{n.said.kind, n.said.key, n.said.body + "\x00"}, true
		}},
		{"a leaf in the place of an inner node", func(t *testing.T, n seen) (said, bool) {
			s, ok := leafSaid(t, seen{high: 1, said: n.said}, singles(5))
			return s, ok && n.high > 1
		}},
		{"an inner node in the place of a leaf", func(t *testing.T, n seen) (said, bool) {
			s, ok := innerSaid(t, seen{high: 2, said: n.said}, []api.Kid{{Key: 0, At: 1}, {Key: 1, At: 2}, {Key: 2, At: 3}, {Key: 3, At: 4}})
			return s, ok && n.high == 1
		}},
	}
	for _, kind := range []int{-1, 0, api.PageData, api.PageRoot, 5, 256 + api.PageLeaf, 256 + api.PageInner, math.MaxInt} {
		l = append(l, spoil{"another kind", func(_ *testing.T, n seen) (said, bool) { return said{kind, n.said.key, n.said.body}, true }})
	}
	return append(l, spoil{"the other kind", func(_ *testing.T, n seen) (said, bool) {
		return said{api.PageLeaf + api.PageInner - n.said.kind, n.said.key, n.said.body}, true
	}})
}

// kidSpoils are the ways in which a page is spoilt, if it is not the top's.
func kidSpoils() []spoil {
	return []spoil{
		{"too few extents", func(t *testing.T, n seen) (said, bool) { return leafSaid(t, n, n.exts[:min(3, len(n.exts))]) }},
		{"one extent", func(t *testing.T, n seen) (said, bool) { return leafSaid(t, n, n.exts[:min(1, len(n.exts))]) }},
		{"too few kids", func(t *testing.T, n seen) (said, bool) { return innerSaid(t, n, n.kids[:min(3, len(n.kids))]) }},
		{"two kids", func(t *testing.T, n seen) (said, bool) { return innerSaid(t, n, n.kids[:min(2, len(n.kids))]) }},
		{"a leaf that begins behind its Key", func(t *testing.T, n seen) (said, bool) {
			l := slices.Clone(n.exts)
			if len(l) > 0 {
				l[0].From++
				l[0].Kind, l[0].At = api.ExtRun, 1000
			}
			return leafSaid(t, n, l)
		}},
		{"a leaf that begins ahead of its Key", func(t *testing.T, n seen) (said, bool) {
			l := slices.Clone(n.exts)
			if len(l) > 0 {
				l[0].From--
			}
			return leafSaid(t, n, l)
		}},
		{"a leaf without its first extent", func(t *testing.T, n seen) (said, bool) {
			l := append(slices.Clone(n.exts), zero(sectorBound-1, 1))
			return leafSaid(t, n, l[1:])
		}},
		{"an inner node that begins behind its Key", func(t *testing.T, n seen) (said, bool) {
			l := slices.Clone(n.kids)
			if len(l) > 0 {
				l[0].Key++
			}
			return innerSaid(t, n, l)
		}},
	}
}

// 10.4: each page of a tree, spoilt in each way, is told: by its own page.
func TestSpoiltPages(t *testing.T) {
	for _, count := range []int{1, 9, 40, 200} {
		h := holdAll(t, singles(count))
		nodes := h.write()
		top := nodes[len(nodes)-1]
		for _, n := range nodes {
			l := spoils()
			if n.page != top.page {
				l = append(l, kidSpoils()...)
			}
			tried := 0
			for _, s := range l {
				bad, ok := s.of(t, n)
				if !ok {
					continue
				}
				tried++
				f := &flash{pages: maps.Clone(h.flash.pages)}
				f.pages[n.page] = bad
				got, err := tree.Read(top.page, top.high, f.get)
				fails(t, s.what, err, "read", n.page, api.ErrForm)
				if got != nil {
					t.Errorf("%s: beside an error: %v", s.what, got)
				}
			}
			if tried < 13 {
				t.Errorf("page %d was spoilt in %d ways only", n.page, tried)
			}
		}
	}
}

// 10.4: a Key that is not the first sector of the kid below it is told by the kid's page.
func TestSpoiltKeys(t *testing.T) {
	h := holdAll(t, singles(200))
	nodes := h.write()
	top := nodes[len(nodes)-1]
	for _, n := range nodes {
		for i := range n.kids {
			if i == 0 && n.page != top.page {
				continue
			}
			for _, by := range []int{-1, 1} {
				l := slices.Clone(n.kids)
				l[i].Key += by
				bad, ok := innerSaid(t, n, l)
				if !ok {
					continue
				}
				f := &flash{pages: maps.Clone(h.flash.pages)}
				f.pages[n.page] = bad
				got, err := tree.Read(top.page, top.high, f.get)
				fails(t, "another Key", err, "read", n.kids[i].At, api.ErrForm)
				if got != nil {
					t.Errorf("beside an error: %v", got)
				}
			}
		}
	}
}

// 10.4: leaves that are good each, whose extents together are no list that may be: told by the top's page.
func TestSpoiltLists(t *testing.T) {
	h := holdAll(t, singles(200))
	nodes := h.write()
	top := nodes[len(nodes)-1]
	leaves := of(nodes, 1)
	for i, n := range leaves[:len(leaves)-1] {
		next := leaves[i+1].exts[0]
		last := n.exts[len(n.exts)-1]
		for what, e := range map[string]api.Ext{
			"it goes over the next leaf's first":     zero(last.From, next.From-last.From+1),
			"it goes over all":                       zero(last.From, sectorBound-last.From),
			"it goes together with the next's first": {From: next.From - 1, N: 1, Kind: next.Kind, At: max(next.At-1, 0)},
			"it stands behind the next leaf's first": zero(next.From+1, 1),
			"it stands behind all":                   zero(sectorBound-1, 1),
			"it is the next leaf's first":            next,
		} {
			l := append(slices.Clone(n.exts[:len(n.exts)-1]), e)
			bad, ok := leafSaid(t, n, l)
			if !ok || e.Kind == api.ExtRun && next.At == 0 {
				continue
			}
			f := &flash{pages: maps.Clone(h.flash.pages)}
			f.pages[n.page] = bad
			got, err := tree.Read(top.page, top.high, f.get)
			fails(t, what, err, "read", top.page, api.ErrForm)
			if got != nil {
				t.Errorf("%s: beside an error: %v", what, got)
			}
		}
	}
}

// 10.4: pages that say themselves to be their own kids, and pages of two nodes above, end in an error.
func TestPagesThatGoRound(t *testing.T) {
	var l []api.Kid
	for i := range 8 {
		l = append(l, api.Kid{Key: i, At: i})
	}
	s, _ := leaf.Inner(l)
	for high := 2; high <= 6; high++ {
		n, err := tree.Read(0, high, func(int) (int, string, error) { return api.PageInner, s, nil })
		if n != nil || fault.Code(err) != api.ErrForm {
			t.Errorf("height %d: %v, %v", high, n, err)
		}
	}
}
