package wear_test

import (
	"math"
	"slices"
	"testing"

	"scoria/api"
	"scoria/wear"
)

func free(worn int) api.Block {
	return api.Block{State: api.BlockFree, Worn: worn}
}

func open(worn int) api.Block {
	return api.Block{State: api.BlockOpen, Worn: worn}
}

func full(valid, worn int) api.Block {
	return api.Block{State: api.BlockFull, Valid: valid, Worn: worn}
}

func bad(valid, worn int) api.Block {
	return api.Block{State: api.BlockBad, Valid: valid, Worn: worn}
}

// no is a block of a state that is none.
func no(state, valid, worn int) api.Block {
	return api.Block{State: state, Valid: valid, Worn: worn}
}

// noStates are states that a block can't have.
var noStates = []int{-1, 4, 5, 256, 1 << 32, 1<<32 + 2, math.MinInt, math.MaxInt}

// answers is what the calls are to answer of a table: Cold of the gap.
type answers struct {
	pick   int
	victim int
	gap    int
	cold   int
	counts [4]int
}

// is looks at all that is said of a table; a call is to leave it as it was.
func is(t *testing.T, l []api.Block, gap int, want answers) {
	t.Helper()
	was := slices.Clone(l)
	got := answers{pick: wear.Pick(l), victim: wear.Victim(l), gap: wear.Gap(l), cold: wear.Cold(l, gap)}
	for state := range got.counts {
		got.counts[state] = wear.Count(l, state)
	}
	if got != want {
		t.Errorf("%v, gap %d: %+v; want %+v", l, gap, got, want)
	}
	if !slices.Equal(l, was) {
		t.Errorf("%v became %v", was, l)
	}
}

// 8.1, 8.2, 8.3: the chapter's example.
func TestExample(t *testing.T) {
	if p := wear.Pick([]api.Block{free(2), free(1), free(1)}); p != 1 {
		t.Errorf("Pick: %d; want 1", p)
	}
	if p := wear.Victim([]api.Block{full(3, 0), full(0, 0), bad(2, 0)}); p != 2 {
		t.Errorf("Victim: %d; want 2", p)
	}
}

// 8.1, 8.2, 8.3: tables of no block, and of one, of each state and of those that are none.
func TestFewBlocks(t *testing.T) {
	nothing := answers{pick: -1, victim: -1, cold: -1}
	is(t, nil, 0, nothing)
	is(t, []api.Block{}, 0, nothing)
	for _, n := range []int{0, 1, -1, 7, math.MinInt, math.MaxInt} {
		for _, gap := range []int{0, 1, -1, math.MinInt, math.MaxInt} {
			is(t, []api.Block{free(n)}, gap, answers{pick: 0, victim: -1, cold: -1, counts: [4]int{1, 0, 0, 0}})
			is(t, []api.Block{open(n)}, gap, answers{pick: -1, victim: -1, cold: -1, counts: [4]int{0, 1, 0, 0}})
			is(t, []api.Block{full(n, n)}, gap, answers{pick: -1, victim: 0, cold: -1, counts: [4]int{0, 0, 1, 0}})
			is(t, []api.Block{bad(1, n)}, gap, answers{pick: -1, victim: 0, cold: -1, counts: [4]int{0, 0, 0, 1}})
			is(t, []api.Block{bad(0, n)}, gap, answers{pick: -1, victim: -1, cold: -1, counts: [4]int{0, 0, 0, 1}})
			for _, state := range noStates {
				is(t, []api.Block{no(state, 1, n), no(state, 0, 0)}, gap, nothing)
			}
		}
	}
}

// picks, victims, gaps and colds look at one call's answer.
func picks(t *testing.T, want int, l ...api.Block) {
	t.Helper()
	if got := wear.Pick(l); got != want {
		t.Errorf("Pick(%v): %d; want %d", l, got, want)
	}
}

func victims(t *testing.T, want int, l ...api.Block) {
	t.Helper()
	if got := wear.Victim(l); got != want {
		t.Errorf("Victim(%v): %d; want %d", l, got, want)
	}
}

func gaps(t *testing.T, want int, l ...api.Block) {
	t.Helper()
	if got := wear.Gap(l); got != want {
		t.Errorf("Gap(%v): %d; want %d", l, got, want)
	}
}

func colds(t *testing.T, want, gap int, l ...api.Block) {
	t.Helper()
	if got := wear.Cold(l, gap); got != want {
		t.Errorf("Cold(%v, %d): %d; want %d", l, gap, got, want)
	}
}

// 8.1: the free block of least Worn, the first of several.
func TestPick(t *testing.T) {
	picks(t, 0, free(3), free(3), free(3))
	picks(t, 2, free(3), free(2), free(1), free(1), free(2))
	picks(t, 3, open(0), full(0, 0), bad(0, 0), free(9))
	picks(t, 1, no(-1, 0, 0), free(9), no(4, 0, 0))
	picks(t, 1, free(math.MaxInt), free(math.MaxInt-1))
	picks(t, -1, open(0), full(0, 0), bad(0, 0), no(4, 0, 0))
	// What a free block's Valid says does not count.
	picks(t, 1, api.Block{Valid: 0, Worn: 2}, api.Block{Valid: 9, Worn: 1}, api.Block{Valid: 0, Worn: 1})
	// A Worn below 0 is as 0.
	picks(t, 0, free(0), free(-1), free(math.MinInt))
	picks(t, 0, free(-1), free(0), free(-5))
	picks(t, 1, free(1), free(-5), free(0))
}

// 8.1: how many blocks are in a state.
func TestCount(t *testing.T) {
	l := []api.Block{free(0), open(1), full(2, 2), bad(3, 3), free(-4), full(0, 5), full(-6, -6), bad(0, 0), bad(-1, 0), bad(9, 9)}
	is(t, l, 100, answers{pick: 0, victim: 3, gap: 5, cold: -1, counts: [4]int{2, 1, 3, 4}})
	for _, state := range noStates {
		if n := wear.Count(l, state); n != 0 {
			t.Errorf("Count of the state %d: %d; want 0", state, n)
		}
	}
}

// 8.2: the first bad block that has pages, ahead of all full ones.
func TestVictimOfBadBlocks(t *testing.T) {
	victims(t, 3, full(0, 0), bad(0, 0), bad(-1, 0), bad(1, 9), bad(1, 0), bad(9, 0))
	victims(t, 0, bad(1, 9), bad(2, 0), full(0, 0))
	victims(t, 0, bad(2, 0), bad(1, 0))
	victims(t, 1, full(0, 0), bad(math.MaxInt, math.MaxInt))
	victims(t, 1, free(0), full(9, 9), bad(0, 0), bad(math.MinInt, 0))
	victims(t, -1, bad(0, 0), bad(-1, -1), free(0), open(0))
}

// 8.2: of the full blocks the one of least Valid, then of least Worn, then the first.
func TestVictimOfFullBlocks(t *testing.T) {
	victims(t, 1, full(2, 0), full(1, 9), full(3, 0))
	victims(t, 2, full(1, 3), full(1, 2), full(1, 1), full(1, 1))
	victims(t, 0, full(1, 1), full(1, 1), full(2, 0))
	victims(t, 3, full(4, 0), free(0), open(0), full(3, 9), no(-1, 0, 0), no(4, 1, 0), bad(0, 0))
	victims(t, 1, full(math.MaxInt, 0), full(math.MaxInt-1, math.MaxInt))
	// A Valid below 0 is one as others are: only a Worn counts as 0 there.
	victims(t, 1, full(0, 0), full(-1, 9))
	victims(t, 1, full(-1, 0), full(math.MinInt, 9))
	// A Worn below 0 is as 0.
	victims(t, 0, full(1, 0), full(1, -1), full(1, math.MinInt))
	victims(t, 1, full(1, 1), full(1, -1), full(1, 0))
}

// 8.3: how much the greatest Worn is above the least one; bad blocks, and those of no state, do not count.
func TestGap(t *testing.T) {
	gaps(t, 0, free(5), open(5), full(0, 5))
	gaps(t, 4, free(5), open(9), full(0, 7))
	gaps(t, 4, full(9, 9), free(7), open(5))
	gaps(t, 4, open(7), full(9, 5), free(9))
	gaps(t, 2, free(5), full(0, 7), bad(0, 0), bad(9, 99), no(-1, 0, 0), no(4, 0, 99))
	gaps(t, 0, bad(0, 0), bad(9, 99), no(-1, 0, 0), no(4, 0, 99))
	gaps(t, 0, free(math.MaxInt), open(math.MaxInt))
	gaps(t, math.MaxInt, free(math.MaxInt), open(math.MinInt))
	gaps(t, math.MaxInt, open(-1), free(math.MaxInt))
	gaps(t, 7, open(-3), free(7))
	gaps(t, 0, open(-3), free(0), full(0, math.MinInt))
}

// 8.3: a full block is cold if the greatest Worn is more than the gap above its own: one less is, just as much is not.
func TestCold(t *testing.T) {
	for _, most := range []api.Block{free(10), open(10), full(0, 10)} {
		colds(t, 1, 7, most, full(5, 2))
		colds(t, -1, 8, most, full(5, 2))
		colds(t, -1, 9, most, full(5, 2))
		colds(t, 1, 0, most, full(5, 9))
		colds(t, -1, 1, most, full(5, 9))
		colds(t, -1, math.MaxInt, most, full(5, 0))
	}
	colds(t, 1, 3, free(10), full(0, 2), full(0, 2), full(0, 3))
	colds(t, 2, 3, free(10), full(0, 3), full(9, 2), full(0, 2))
	colds(t, 3, 3, free(0), open(0), bad(0, 0), full(0, 5), no(-1, 0, 0), no(4, 0, 0), free(9))
	colds(t, -1, 0, free(0), open(10), bad(5, 0))
	colds(t, -1, 0, full(0, 5), bad(9, 99), no(-1, 0, 99), no(4, 0, 99))
	colds(t, -1, 0, full(0, 5), free(5), open(0))
}

// 8.3: a gap and a Worn below 0 are as 0, and no sum of them wraps round.
func TestColdFarBeyond(t *testing.T) {
	for _, gap := range []int{0, -1, -8, math.MinInt} {
		colds(t, -1, gap, full(0, 5), full(0, 5), free(0))
		colds(t, 1, gap, full(0, 6), full(0, 5), free(0))
		colds(t, -1, gap, full(0, -1), full(0, -9), free(0))
		colds(t, 0, gap, full(0, -1), full(0, -9), free(1))
	}
	colds(t, -1, 5, full(0, -3), free(5))
	colds(t, 0, 4, full(0, -3), free(5))
	colds(t, 0, 4, full(0, math.MinInt), free(5))
	colds(t, -1, math.MaxInt, full(0, math.MinInt), free(math.MaxInt))
	colds(t, 0, math.MaxInt-1, full(0, math.MinInt), free(math.MaxInt))
	colds(t, -1, math.MaxInt, full(0, 1), free(math.MaxInt))
	colds(t, -1, math.MaxInt, full(0, math.MaxInt), free(math.MaxInt))
}
