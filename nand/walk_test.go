package nand_test

import (
	"strings"
	"testing"

	"scoria/api"
	"scoria/nand"
)

// walk goes at random through what can be done to an array, and keeps beside it, by plain lists, what is to be said of it.
type walk struct {
	t     *testing.T
	n     *nand.Nand
	g     api.Geometry
	seed  uint64
	texts [][]string // of each block the texts of its pages that are not blank
	worn  []int
	bad   []bool
	ops   int
	down  bool
	waits []api.Mishap // the plan, At 1 being the next operation
}

func (w *walk) below(n int) int {
	w.seed = w.seed*6364136223846793005 + 1442695040888963407
	return int(w.seed>>33) % n
}

func (w *walk) text(most int) string {
	return strings.Repeat(string([]byte{byte('a' + w.below(26))}), w.below(most+1))
}

// hit takes from the plan what comes at the next operation; every other mishap is one nearer.
func (w *walk) hit() api.Mishap {
	w.ops++
	var m api.Mishap
	for i, x := range w.waits {
		if x.At == 1 && m.At == 0 {
			m = x
		}
		w.waits[i].At--
	}
	return m
}

func (w *walk) left(m api.Mishap, s string) string {
	if m.Keep < 0 {
		m.Keep = 0
	}
	if m.Keep < len(s) {
		s = s[:m.Keep]
	}
	s += m.Junk
	if len(s) > api.PageBytes {
		s = s[:api.PageBytes]
	}
	return s
}

func (w *walk) program() {
	block := w.below(w.g.Blocks)
	page := block*w.g.Pages + len(w.texts[block])
	if w.below(8) == 0 {
		page += w.below(5) - 2
	}
	s := w.text(130)
	is(w.t, "Program", w.n.Program(page, s), "program", page, w.programmed(page, s))
}

func (w *walk) programmed(page int, s string) api.Errno {
	block := page / w.g.Pages
	switch {
	case w.down:
		return api.ErrDown
	case page < 0 || page >= w.g.Blocks*w.g.Pages || len(s) > api.PageBytes:
		return api.ErrArg
	case w.bad[block]:
		return api.ErrBad
	case page%w.g.Pages != len(w.texts[block]):
		return api.ErrOrder
	}
	m := w.hit()
	switch m.Kind {
	case api.PowerLoss:
		w.texts[block] = append(w.texts[block], w.left(m, s))
		w.down = true
		return api.ErrDown
	case api.ProgramFail:
		w.texts[block] = append(w.texts[block], w.left(m, s))
		w.bad[block] = true
		return api.ErrBad
	}
	w.texts[block] = append(w.texts[block], s)
	return api.OK
}

func (w *walk) erase() {
	block := w.below(w.g.Blocks+2) - 1
	is(w.t, "Erase", w.n.Erase(block), "erase", block, w.erased(block))
}

func (w *walk) erased(block int) api.Errno {
	switch {
	case w.down:
		return api.ErrDown
	case block < 0 || block >= w.g.Blocks:
		return api.ErrArg
	case w.bad[block]:
		return api.ErrBad
	}
	m := w.hit()
	switch m.Kind {
	case api.PowerLoss:
		w.down = true
		if m.Keep > 0 {
			w.texts[block] = nil
			for range w.g.Pages {
				w.texts[block] = append(w.texts[block], w.left(m, ""))
			}
		}
		return api.ErrDown
	case api.EraseFail:
		w.bad[block] = true
		return api.ErrBad
	}
	w.texts[block] = nil
	w.worn[block]++
	return api.OK
}

func (w *walk) plan() {
	w.waits = nil
	for range w.below(4) {
		w.waits = append(w.waits, api.Mishap{At: w.below(12) - 1, Kind: w.below(5), Keep: w.below(140) - 5, Junk: w.text(140)})
	}
	w.n.Plan(w.waits)
}

func (w *walk) up() {
	w.n.Up()
	w.down = false
	w.waits = nil
}

// look holds the array against what is to be said of it.
func (w *walk) look() {
	ops(w.t, w.n, w.ops, w.down)
	for b := range w.g.Blocks {
		block(w.t, w.n, b, len(w.texts[b]), w.worn[b], w.bad[b])
		for p := range w.g.Pages {
			switch {
			case w.down:
				reads(w.t, w.n, b*w.g.Pages+p, "", api.ErrDown)
			case p < len(w.texts[b]):
				reads(w.t, w.n, b*w.g.Pages+p, w.texts[b][p], api.OK)
			default:
				reads(w.t, w.n, b*w.g.Pages+p, "", api.ErrBlank)
			}
		}
	}
}

func (w *walk) step() {
	switch k := w.below(40); {
	case k < 30:
		w.program()
	case k < 36:
		w.erase()
	case k < 38:
		w.plan()
	default:
		w.up()
	}
}

// 4.2 to 4.5: whatever is done and goes wrong, an array says what plain lists say: what was programmed in order stays until its block is erased, but where power was lost.
func TestWalks(t *testing.T) {
	for seed := range 40 {
		g := api.Geometry{Blocks: 16 + seed%3, Pages: 8 + seed%2}
		w := &walk{t: t, n: of(t, g), g: g, seed: uint64(seed), texts: make([][]string, g.Blocks), worn: make([]int, g.Blocks), bad: make([]bool, g.Blocks)}
		for range 600 {
			w.step()
			w.look()
		}
		if t.Failed() {
			t.Fatalf("the walk %d", seed)
		}
	}
}
