package wear_test

import (
	"math"
	"slices"
	"testing"

	"scoria/api"
	"scoria/wear"
)

// ahead tells of two blocks' numbers whether the first ones are less: the first number that differs tells.
func ahead(a, b []int) bool {
	return slices.Compare(a, b) < 0
}

// atLeast0 is a number, or 0 if it is below.
func atLeast0(n int) int {
	if n < 0 {
		return 0
	}
	return n
}

// places are those of the blocks of some states.
func places(l []api.Block, states ...int) []int {
	var found []int
	for i, b := range l {
		if slices.Contains(states, b.State) {
			found = append(found, i)
		}
	}
	return found
}

// leastOf is the one of some places that no other one is ahead of, nor is alike and stands ahead; -1 of none.
func leastOf(among []int, numbers func(place int) []int) int {
	for _, p := range among {
		beaten := slices.ContainsFunc(among, func(q int) bool {
			return ahead(numbers(q), numbers(p)) || q < p && !ahead(numbers(p), numbers(q))
		})
		if !beaten {
			return p
		}
	}
	return -1
}

// reckoned is what is to be said of a table, worked out by holding each block against each.
func reckoned(l []api.Block, gap int) answers {
	worn := func(p int) int { return atLeast0(l[p].Worn) }
	byWorn := func(p int) []int { return []int{worn(p)} }
	a := answers{pick: leastOf(places(l, 0), byWorn), victim: -1, cold: -1}
	for _, p := range slices.Backward(places(l, 3)) {
		if l[p].Valid > 0 {
			a.victim = p
		}
	}
	if a.victim < 0 {
		a.victim = leastOf(places(l, 2), func(p int) []int { return []int{l[p].Valid, worn(p)} })
	}
	cold := leastOf(places(l, 2), byWorn)
	for _, p := range places(l, 0, 1, 2) {
		for _, q := range places(l, 0, 1, 2) {
			a.gap = max(a.gap, worn(p)-worn(q))
		}
		if cold >= 0 && worn(p)-worn(cold) > atLeast0(gap) {
			a.cold = cold
		}
	}
	for state := range a.counts {
		a.counts[state] = len(places(l, state))
	}
	return a
}

// 8.1, 8.2, 8.3: all tables of two blocks of few numbers, and some of three.
func TestAllSmallTables(t *testing.T) {
	var blocks []api.Block
	for state := -1; state <= 4; state++ {
		for valid := -1; valid <= 1; valid++ {
			for worn := -1; worn <= 2; worn++ {
				blocks = append(blocks, api.Block{State: state, Valid: valid, Worn: worn})
			}
		}
	}
	for i, a := range blocks {
		for j, b := range blocks {
			for gap := -1; gap <= 2; gap++ {
				is(t, []api.Block{a, b}, gap, reckoned([]api.Block{a, b}, gap))
			}
			// All tables of three would take long: of each two blocks one has a third.
			c := blocks[(i*7+j*5)%len(blocks)]
			l := []api.Block{a, b, c}
			is(t, l, 0, reckoned(l, 0))
			is(t, l, 1, reckoned(l, 1))
		}
	}
}

// draw is a source of numbers that are the same each time.
type draw uint64

func (d *draw) below(n int) int {
	*d = *d*6364136223846793005 + 1442695040888963407
	return int(*d>>33) % n
}

func (d *draw) of(l []int) int {
	return l[d.below(len(l))]
}

// 8.1, 8.2, 8.3: tables of up to 64 blocks, of numbers that are close together, and of those far beyond.
func TestLongTables(t *testing.T) {
	d := draw(1)
	near := []int{0, 1, 2, 3, 4, 5, 6, 7, 8, 9, 10, 11, 12}
	far := []int{math.MinInt, math.MinInt + 1, -1 << 32, -1, 0, 1, 7, 8, 9, 1 << 32, math.MaxInt - 1, math.MaxInt}
	for n := range 4000 {
		numbers := near
		if n%2 == 1 {
			numbers = far
		}
		l := make([]api.Block, d.below(65))
		for i := range l {
			l[i] = api.Block{State: d.below(4), Valid: d.of(numbers), Worn: d.of(numbers)}
			if d.below(8) == 0 {
				l[i].State = d.of(noStates)
			}
		}
		gap := d.of(numbers)
		is(t, l, gap, reckoned(l, gap))
	}
}

// 8.4: blocks that are picked, filled and erased in turn are worn alike, however many are full at a time.
func TestBlocksAreWornAlike(t *testing.T) {
	for _, blocks := range []int{1, 2, 3, 16, 17, 64} {
		for most := 1; most <= blocks; most++ {
			turns(t, blocks, most)
		}
	}
}

// turns picks and fills blocks, of which no more than most are full: the one that was filled first is erased then.
func turns(t *testing.T, blocks, most int) {
	t.Helper()
	l := make([]api.Block, blocks)
	var filled []int
	for turn := range 20 * blocks {
		p := wear.Pick(l)
		if p < 0 || p >= len(l) || l[p].State != api.BlockFree {
			t.Fatalf("%d blocks, %d full, turn %d: Pick %d", blocks, most, turn, p)
		}
		l[p].State = api.BlockFull
		filled = append(filled, p)
		if len(filled) == most {
			l[filled[0]].State = api.BlockFree
			l[filled[0]].Worn++
			filled = filled[1:]
		}
		if g := wear.Gap(l); g > 1 || unlike(l) > 1 {
			t.Fatalf("%d blocks, %d full, turn %d: Gap %d of %v", blocks, most, turn, g, l)
		}
	}
}

// unlike is how much the greatest Worn is above the least one.
func unlike(l []api.Block) int {
	least, most := l[0].Worn, l[0].Worn
	for _, b := range l {
		least, most = min(least, b.Worn), max(most, b.Worn)
	}
	return most - least
}
