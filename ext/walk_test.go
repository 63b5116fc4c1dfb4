package ext_test

import (
	"math"
	"slices"
	"testing"

	"scoria/api"
	"scoria/ext"
)

// cell is what is said of one sector; nothing is a hole.
type cell struct {
	kind int
	at   int
}

// field is what is said of each sector from first on; all others are holes.
type field struct {
	first int
	cells []cell
}

func (f field) copied() field {
	return field{f.first, slices.Clone(f.cells)}
}

// say lets an extent's sectors be the extent's, one by one.
func (f field) say(e api.Ext) {
	for i := range e.N {
		c := cell{kind: e.Kind}
		if e.Kind == api.ExtRun {
			c.at = e.At + i
		}
		f.cells[e.From+i-f.first] = c
	}
}

// over, cut and clip are the field behind what is done to it.
func (f field) over(e api.Ext) field {
	f = f.copied()
	f.say(e)
	return f
}

func (f field) cut(from, n int) field {
	f = f.copied()
	for i := range f.cells {
		if s := f.first + i; s >= from && s-from < n {
			f.cells[i] = cell{}
		}
	}
	return f
}

func (f field) clip(from, n int) field {
	f = f.copied()
	for i := range f.cells {
		if s := f.first + i; s < from || s-from >= n {
			f.cells[i] = cell{}
		}
	}
	return f
}

// list is the one list that says the field: sector by sector an extent goes on or another one begins.
func (f field) list() []api.Ext {
	var l []api.Ext
	for i, c := range f.cells {
		if c.kind == api.Hole {
			continue
		}
		ahead := c
		if c.kind == api.ExtRun {
			ahead.at--
		}
		if i > 0 && f.cells[i-1] == ahead {
			l[len(l)-1].N++
		} else {
			l = append(l, api.Ext{From: f.first + i, N: 1, Kind: c.kind, At: c.at})
		}
	}
	return l
}

// fieldOf is what a list of extents that may be says of n sectors from first on: the first extent that has a sector.
func fieldOf(l []api.Ext, first, n int) field {
	f := field{first, make([]cell, n)}
	for _, e := range slices.Backward(l) {
		f.say(e)
	}
	return f
}

// window is a small part of all sectors and of all pages.
type window struct {
	first, sectors int
	page, pages    int
}

// windows stand at both ends.
var windows = []window{
	{first: 0, sectors: 5, page: 0, pages: 3},
	{first: sectorBound - 4, sectors: 4, page: pageBound - 4, pages: 4},
}

// fields yields all that can be said of a window's sectors.
func (w window) fields(yield func(field) bool) {
	all := []cell{{}, {kind: api.ExtZero}}
	for i := range w.pages {
		all = append(all, cell{api.ExtRun, w.page + i})
	}
	count := int(math.Pow(float64(len(all)), float64(w.sectors)))
	for n := range count {
		f := field{first: w.first}
		for range w.sectors {
			f.cells = append(f.cells, all[n%len(all)])
			n /= len(all)
		}
		if !yield(f) {
			return
		}
	}
}

// ranges yields all ranges within a window, those of no sectors too.
func (w window) ranges(yield func(from, n int) bool) {
	for from := range w.sectors + 1 {
		for n := range w.sectors - from + 1 {
			if !yield(w.first+from, n) {
				return
			}
		}
	}
}

// exts yields all extents within a window.
func (w window) exts(yield func(api.Ext) bool) {
	for from, n := range w.ranges {
		if n > 0 && !yield(zero(from, n)) {
			return
		}
		for at := range w.pages - n + 1 {
			if n > 0 && !yield(run(from, n, w.page+at)) {
				return
			}
		}
	}
}

// says looks at what a list says of each sector, of all together, and of those beyond.
func says(t *testing.T, l []api.Ext, f field) {
	t.Helper()
	count := 0
	var pages []int
	for i, c := range f.cells {
		finds(t, l, f.first+i, c.kind, c.at)
		if c.kind != api.Hole {
			count++
		}
		if c.kind == api.ExtRun {
			pages = append(pages, c.at)
		}
	}
	finds(t, l, f.first-1, api.Hole, 0)
	finds(t, l, f.first+len(f.cells), api.Hole, 0)
	if !ext.Check(l) || ext.Count(l) != count || !slices.Equal(ext.Pages(l), pages) {
		t.Errorf("%v: Check %t, Count %d, Pages %v; want %d, %v", l, ext.Check(l), ext.Count(l), ext.Pages(l), count, pages)
	}
}

// 7.1, 7.2, 7.3: all lists within a window, with all ranges and extents there, held sector by sector against what is to be said.
func TestAllSmallLists(t *testing.T) {
	for _, w := range windows {
		for f := range w.fields {
			l := f.list()
			was := slices.Clone(l)
			says(t, l, f)
			for from, n := range w.ranges {
				got, e := ext.Cut(l, from, n)
				is(t, "Cut", got, e, f.cut(from, n).list())
				got, e = ext.Clip(l, from, n)
				is(t, "Clip", got, e, f.clip(from, n).list())
			}
			for x := range w.exts {
				got, e := ext.Over(l, x)
				is(t, "Over", got, e, f.over(x).list())
			}
			if !slices.Equal(l, was) {
				t.Errorf("%v became %v", was, l)
			}
		}
	}
}

// 7.1: two extents go together just if the sectors of both, one behind the other, are one extent's.
func TestJoinedOfAllSmallOnes(t *testing.T) {
	for _, w := range windows {
		for a := range w.exts {
			for b := range w.exts {
				want := api.Ext{}
				both := fieldOf([]api.Ext{a, b}, w.first, w.sectors).list()
				if len(both) == 1 && a.From+a.N == b.From {
					want = both[0]
				}
				joins(t, a, b, want)
			}
		}
	}
}

// 7.1, 7.3, 7.4: of all lists of up to three extents, in any order, one may be just if it is the one that says what it says; Find answers of those that may not be, too.
func TestAllShortLists(t *testing.T) {
	for _, w := range []window{{first: 0, sectors: 4, page: 0, pages: 2}, {first: sectorBound - 3, sectors: 3, page: pageBound - 3, pages: 3}} {
		exts := slices.Collect(w.exts)
		for _, a := range exts {
			for _, b := range exts {
				shortList(t, w, []api.Ext{a, b})
				for _, c := range exts {
					shortList(t, w, []api.Ext{a, b, c})
				}
			}
		}
	}
}

func shortList(t *testing.T, w window, l []api.Ext) {
	t.Helper()
	f := fieldOf(l, w.first, w.sectors)
	if want := slices.Equal(l, f.list()); ext.Check(l) != want {
		t.Errorf("Check(%v): %t; want %t", l, ext.Check(l), want)
	}
	for i, c := range f.cells {
		finds(t, l, w.first+i, c.kind, c.at)
	}
}

// draw is a source of numbers that are the same each time.
type draw uint64

func (d *draw) below(n int) int {
	*d = *d*6364136223846793005 + 1442695040888963407
	return int(*d>>33) % n
}

// within is a range, or an extent's, within so many sectors from first on: how many there are, most at most.
func (d *draw) within(first, sectors, most int) (from, n int) {
	n = 1 + d.below(most)
	return first + d.below(sectors-n+1), n
}

// ext is an extent there; its pages are few, so that it often goes together with others.
func (d *draw) ext(first, sectors int) api.Ext {
	from, n := d.within(first, sectors, 12)
	if d.below(3) == 0 {
		return zero(from, n)
	}
	return run(from, n, (from-first)%7+7*d.below(2))
}

// walkSectors is how many sectors a walk goes over.
const walkSectors = 60

// walked is a list that came by many extents and cuts, and its field.
func walked(t *testing.T, d *draw, first, steps int) ([]api.Ext, field) {
	t.Helper()
	var l []api.Ext
	f := field{first, make([]cell, walkSectors)}
	for range steps {
		var e api.Errno
		if d.below(3) == 0 {
			from, n := d.within(first, walkSectors, 20)
			l, e = ext.Cut(l, from, n)
			f = f.cut(from, n)
		} else {
			x := d.ext(first, walkSectors)
			l, e = ext.Over(l, x)
			f = f.over(x)
		}
		is(t, "a step", l, e, f.list())
	}
	return l, f
}

// 7.2, 7.3, 7.4: lists on long walks say, step by step, what they are to say, in the one way there is.
func TestWalks(t *testing.T) {
	d := draw(7)
	for _, first := range []int{0, 1000, sectorBound - walkSectors} {
		for range 40 {
			l, f := walked(t, &d, first, 60)
			says(t, l, f)
			from, n := d.within(first, walkSectors, walkSectors)
			got, e := ext.Clip(l, from, n)
			is(t, "Clip", got, e, f.clip(from, n).list())
		}
	}
}

// ok is the list of an answer without an error.
func ok(t *testing.T, l []api.Ext, e api.Errno) []api.Ext {
	t.Helper()
	if e != api.OK {
		t.Fatalf("error %d", e)
	}
	return l
}

// 7.4: what is done twice is done once.
func TestTwiceIsOnce(t *testing.T) {
	d := draw(1)
	for range 500 {
		l, _ := walked(t, &d, 0, 20)
		from, n := d.within(0, walkSectors, walkSectors)
		x := d.ext(0, walkSectors)
		once, e := ext.Cut(l, from, n)
		twice, e2 := ext.Cut(ok(t, once, e), from, n)
		is(t, "Cut", twice, e2, once)
		once, e = ext.Clip(l, from, n)
		twice, e2 = ext.Clip(ok(t, once, e), from, n)
		is(t, "Clip", twice, e2, once)
		once, e = ext.Over(l, x)
		twice, e2 = ext.Over(ok(t, once, e), x)
		is(t, "Over", twice, e2, once)
	}
}

// 7.4: cuts come out the same in each order, and so do a cut and a clip; what is cut ahead of an extent laid over it changes nothing.
func TestOrders(t *testing.T) {
	d := draw(2)
	for range 500 {
		l, _ := walked(t, &d, 0, 20)
		from1, n1 := d.within(0, walkSectors, 20)
		from2, n2 := d.within(0, walkSectors, 20)
		cut := func(l []api.Ext, from, n int) []api.Ext {
			got, e := ext.Cut(l, from, n)
			return ok(t, got, e)
		}
		clip := func(l []api.Ext, from, n int) []api.Ext {
			got, e := ext.Clip(l, from, n)
			return ok(t, got, e)
		}
		is(t, "two cuts", cut(cut(l, from1, n1), from2, n2), api.OK, cut(cut(l, from2, n2), from1, n1))
		is(t, "a cut and a clip", cut(clip(l, from1, n1), from2, n2), api.OK, clip(cut(l, from2, n2), from1, n1))
		x := d.ext(0, walkSectors)
		over, e := ext.Over(l, x)
		again, e2 := ext.Over(cut(l, x.From, x.N), x)
		is(t, "Over of what was cut", again, e2, ok(t, over, e))
		is(t, "Cut of what was laid over", cut(over, x.From, x.N), api.OK, cut(l, x.From, x.N))
	}
}

// 7.4: a list comes out of its parts, in whatever order they are laid, and however they were parted.
func TestOutOfItsParts(t *testing.T) {
	d := draw(3)
	for range 500 {
		l, _ := walked(t, &d, 0, 20)
		var parts []api.Ext
		for at := 0; at < walkSectors; {
			n := min(1+d.below(9), walkSectors-at)
			clip, e := ext.Clip(l, at, n)
			parts = append(parts, ok(t, clip, e)...)
			at += n
		}
		for i := range parts {
			j := d.below(i + 1)
			parts[i], parts[j] = parts[j], parts[i]
		}
		var whole []api.Ext
		for _, x := range parts {
			over, e := ext.Over(whole, x)
			whole = ok(t, over, e)
		}
		is(t, "out of its parts", whole, api.OK, l)
	}
}
