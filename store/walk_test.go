package store_test

import (
	"slices"
	"strings"
	"testing"

	"scoria/api"
	"scoria/nand"
	"scoria/page"
	"scoria/store"
)

// draw is numbers that follow from a first one.
type draw uint64

func (d *draw) below(n int) int {
	*d = *d*6364136223846793005 + 1442695040888963407
	return int(*d>>33) % n
}

// walk goes at random through what can be done to a store, and keeps beside it, by plain lists, what is to be said of it.
type walk struct {
	t     *testing.T
	d     draw
	g     api.Geometry
	n     *nand.Nand
	s     *store.Store
	texts [][]string // of each block the bytes of its pages that are not blank
	table []api.Block
	bad   []bool // what the array knows
	seq   int
	down  bool
	rare  int               // one in so many mishaps is another than a loss of power
	waits []api.Mishap      // the plan, At 1 being the next operation
	stays map[int]api.Page  // what was appended, until its block is erased
	acts  map[api.Errno]int // how often each error was seen
}

func newWalk(t *testing.T, seed int) *walk {
	g := api.Geometry{Blocks: 16 + seed%9, Pages: 8 + seed%3}
	n := of(t, g)
	w := &walk{t: t, d: draw(seed), g: g, n: n, s: open(t, n), rare: 40}
	if seed%4 == 0 {
		w.rare = 3
	}
	w.texts = make([][]string, g.Blocks)
	w.table = make([]api.Block, g.Blocks)
	w.bad = make([]bool, g.Blocks)
	w.stays = map[int]api.Page{}
	w.acts = map[api.Errno]int{}
	return w
}

// hit takes from the plan what comes at the next operation.
func (w *walk) hit() api.Mishap {
	var m api.Mishap
	for i, x := range w.waits {
		if x.At == 1 {
			m = x
		}
		w.waits[i].At--
	}
	return m
}

func (w *walk) left(m api.Mishap, s string) string {
	s = s[:min(m.Keep, len(s))] + m.Junk
	return s[:min(len(s), api.PageBytes)]
}

// block is the one that is open, or that is opened now; -1: there is none.
func (w *walk) block() int {
	best := -1
	for i, b := range w.table {
		if b.State == api.BlockOpen && len(w.texts[i]) < w.g.Pages {
			return i
		}
		if b.State == api.BlockOpen {
			w.table[i].State = api.BlockFull
		}
		if b.State == api.BlockFree && (best < 0 || b.Worn < w.table[best].Worn) {
			best = i
		}
	}
	if best >= 0 {
		w.table[best].State = api.BlockOpen
	}
	return best
}

func (w *walk) count(state int) int {
	n := 0
	for _, b := range w.table {
		if b.State == state {
			n++
		}
	}
	return n
}

func (w *walk) isWorn() bool {
	return w.count(api.BlockBad) > w.g.Blocks/8
}

// appended is where a page is to be put, or why it is not.
func (w *walk) appended(p api.Page) (int, api.Errno) {
	if len(p.Body) > api.MaxBody {
		return 0, api.ErrArg
	}
	p.Seq = w.seq
	begun := false
	for !w.isWorn() {
		block := w.block()
		if block < 0 {
			return 0, api.ErrSpace
		}
		if w.down {
			return 0, api.ErrDown
		}
		if !begun {
			begun = true
			w.seq++
		}
		s, _ := page.Write(p)
		at := block*w.g.Pages + len(w.texts[block])
		m := w.hit()
		if m.Kind == api.PowerLoss || m.Kind == api.ProgramFail {
			s = w.left(m, s)
		}
		w.texts[block] = append(w.texts[block], s)
		switch m.Kind {
		case api.PowerLoss:
			w.down = true
			return 0, api.ErrDown
		case api.ProgramFail:
			w.bad[block] = true
			w.table[block].State = api.BlockBad
			continue
		}
		w.stays[at] = p
		return at, api.OK
	}
	return 0, api.ErrWorn
}

func (w *walk) append() {
	kinds := []int{api.PageData, api.PageLeaf, api.PageInner, api.PageRoot}
	p := api.Page{Kind: kinds[w.d.below(4)], Space: w.d.below(api.MaxSpace), Key: w.d.below(1 << 30), Seq: w.d.below(9) - 3}
	p.Body = strings.Repeat(string([]byte{byte(w.d.below(256))}), w.d.below(103))
	at, want := w.appended(p)
	w.acts[want]++
	appends(w.t, w.s, p, at, want)
}

// erased is what an Erase is to answer.
func (w *walk) erased(block int) api.Errno {
	if block < 0 || block >= w.g.Blocks || w.table[block].State != api.BlockFull || w.table[block].Valid != 0 {
		return api.ErrArg
	}
	if w.down {
		return api.ErrDown
	}
	if w.bad[block] {
		w.table[block].State = api.BlockBad
		return api.OK
	}
	m := w.hit()
	switch m.Kind {
	case api.PowerLoss:
		w.down = true
		if m.Keep > 0 {
			w.texts[block] = slices.Repeat([]string{w.left(m, "")}, w.g.Pages)
			w.forget(block)
		}
		return api.ErrDown
	case api.EraseFail:
		w.bad[block] = true
		w.table[block].State = api.BlockBad
		return api.OK
	}
	w.texts[block] = nil
	w.forget(block)
	w.table[block].State = api.BlockFree
	w.table[block].Worn++
	return api.OK
}

// forget lets the pages of a block be there no more.
func (w *walk) forget(block int) {
	for i := range w.g.Pages {
		delete(w.stays, block*w.g.Pages+i)
	}
}

func (w *walk) erase() {
	block := w.d.below(w.g.Blocks+2) - 1
	want := w.erased(block)
	w.acts[want]++
	erases(w.t, w.s, block, want)
}

func (w *walk) need() {
	for i := range w.table {
		w.table[i].Valid = 0
	}
	var l []int
	for range w.d.below(6) {
		at := w.d.below(w.g.Blocks*w.g.Pages+10) - 5
		l = append(l, at)
		if at >= 0 && at < w.g.Blocks*w.g.Pages {
			w.table[at/w.g.Pages].Valid++
		}
	}
	w.s.Need(l)
}

func (w *walk) seal() {
	w.s.Seal()
	for i, b := range w.table {
		if b.State == api.BlockOpen {
			w.table[i].State = api.BlockFull
		}
	}
}

// plan lays a few mishaps of all kinds; as blocks that go bad wear a store out, in most walks they are rare.
func (w *walk) plan() {
	w.waits = nil
	for at := 1; at < 30; at += 1 + w.d.below(20) {
		kind := api.PowerLoss
		if w.d.below(w.rare) == 0 {
			kind = w.d.below(5)
		}
		m := api.Mishap{At: at, Kind: kind, Keep: w.d.below(140)}
		if w.d.below(2) == 0 {
			m.Junk = "some junk"
		}
		w.waits = append(w.waits, m)
	}
	w.n.Plan(w.waits)
}

func (w *walk) up() {
	w.n.Up()
	w.down = false
	w.waits = nil
}

// anew opens the store anew: what is known then is what the array says.
func (w *walk) anew() {
	s, err := store.Open(w.n)
	if w.down {
		is(w.t, "Open", err, "open", 0, api.ErrDown)
		return
	}
	is(w.t, "Open", err, "open", 0, api.OK)
	w.s = s
	w.seq = 0
	for i := range w.table {
		state := api.BlockFull
		if w.bad[i] {
			state = api.BlockBad
		} else if len(w.texts[i]) == 0 {
			state = api.BlockFree
		}
		w.table[i] = api.Block{State: state, Worn: w.table[i].Worn}
	}
	for _, f := range w.found() {
		w.seq = max(w.seq, f.P.Seq+1)
	}
}

// found are the pages that can be read.
func (w *walk) found() []api.Found {
	var l []api.Found
	for block, texts := range w.texts {
		for i, s := range texts {
			if p, e := page.Read(s); e == api.OK {
				l = append(l, api.Found{At: block*w.g.Pages + i, P: p})
			}
		}
	}
	return l
}

func (w *walk) step() {
	switch k := w.d.below(100); {
	case k < 70:
		w.append()
	case k < 86:
		w.erase()
	case k < 90:
		w.need()
	case k < 92:
		w.seal()
	case k < 94:
		w.plan()
	case k < 98:
		w.up()
	default:
		w.anew()
	}
}

// look holds the store against what is to be said of it.
func (w *walk) look() {
	w.t.Helper()
	if got := w.s.Table(); !slices.Equal(got, w.table) {
		w.t.Errorf("Table: %v; want %v", got, w.table)
	}
	if w.s.Seq() != w.seq || w.s.Free() != w.count(api.BlockFree) || w.s.Retired() != w.count(api.BlockBad) || w.s.Worn() != w.isWorn() || w.s.Geometry() != w.g {
		w.t.Errorf("Seq %d, Free %d, Retired %d, Worn %t; want %d, %d, %d, %t", w.s.Seq(), w.s.Free(), w.s.Retired(), w.s.Worn(), w.seq, w.count(api.BlockFree), w.count(api.BlockBad), w.isWorn())
	}
	if w.n.Down() != w.down {
		w.t.Errorf("down: %t; want %t", w.n.Down(), w.down)
	}
}

// lookAtPages holds what can be read against what is to be there, and what stays against what was appended.
func (w *walk) lookAtPages() {
	w.t.Helper()
	found, err := w.s.Scan()
	if w.down {
		is(w.t, "Scan", err, "scan", 0, api.ErrDown)
		return
	}
	if want := w.found(); err != nil || !slices.Equal(found, want) {
		w.t.Errorf("Scan: %d pages, %v; want %d", len(found), err, len(want))
	}
	for at, p := range w.stays {
		reads(w.t, w.s, at, p, api.OK)
	}
}

// 11.1 to 11.5: whatever is done and goes wrong, a store says what plain lists say.
func TestWalks(t *testing.T) {
	acts := map[api.Errno]int{}
	for seed := range 60 {
		w := newWalk(t, seed)
		for i := range 1500 {
			w.step()
			w.look()
			if i%10 == 0 {
				w.lookAtPages()
			}
		}
		if t.Failed() {
			t.Fatalf("the walk %d", seed)
		}
		for e, n := range w.acts {
			acts[e] += n
		}
	}
	for _, e := range []api.Errno{api.OK, api.ErrArg, api.ErrDown, api.ErrSpace, api.ErrWorn} {
		if acts[e] < 100 {
			t.Errorf("the error %d was seen %d times", e, acts[e])
		}
	}
}

// 11.5: sequence numbers rise, also over losses of power and stores that are opened anew: pages that can be read and have the same one are the same page, and all but one stand in blocks that went bad with it.
func TestNumbersRise(t *testing.T) {
	twice := 0
	for seed := range 20 {
		w := newWalk(t, 100+seed)
		// Early on a block goes bad that keeps the page.
		w.waits = []api.Mishap{{At: 1 + seed, Kind: api.ProgramFail, Keep: api.PageBytes}}
		w.n.Plan(w.waits)
		for range 800 {
			w.step()
			if w.d.below(5) == 0 {
				w.up()
			}
			seen := map[int]api.Page{}
			good := map[int]int{}
			for _, f := range w.found() {
				p, ok := seen[f.P.Seq]
				if ok && p != f.P {
					t.Fatalf("the walk %d: two pages of the number %d", seed, f.P.Seq)
				}
				if ok {
					twice++
				}
				seen[f.P.Seq] = f.P
				if !w.bad[f.At/w.g.Pages] {
					good[f.P.Seq]++
				}
				if good[f.P.Seq] > 1 {
					t.Fatalf("the walk %d: the number %d in two good blocks", seed, f.P.Seq)
				}
			}
		}
	}
	if twice == 0 {
		t.Error("no page was left whole in a block that went bad")
	}
}
