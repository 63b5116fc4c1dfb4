package ext_test

import (
	"math"
	"math/big"
	"slices"
	"testing"

	"scoria/api"
	"scoria/ext"
)

// The bounds, as the document has them.
const (
	sectorBound = 16777216
	pageBound   = 2048
)

func zero(from, n int) api.Ext {
	return api.Ext{From: from, N: n, Kind: api.ExtZero}
}

func run(from, n, at int) api.Ext {
	return api.Ext{From: from, N: n, Kind: api.ExtRun, At: at}
}

// numbers are those at which a sum with others meets the bound, is just beyond it, or wraps round.
func numbers(bound int) []int {
	return []int{math.MinInt, math.MinInt + 1, -bound, -2, -1, 0, 1, 2, bound / 2, bound - 2, bound - 1, bound, bound + 1, 1 << 32, 1<<32 + 1, 1 << 62, math.MaxInt - bound, math.MaxInt - 1, math.MaxInt}
}

// below tells whether so many from a place on, one or more, lie below a bound; their sum can not wrap round.
func below(from, n, bound int) bool {
	sum := new(big.Int).Add(big.NewInt(int64(from)), big.NewInt(int64(n)))
	return from >= 0 && n >= 1 && sum.Cmp(big.NewInt(int64(bound))) <= 0
}

// mayBe is what One is to tell.
func mayBe(e api.Ext) bool {
	where := e.Kind == 1 && e.At == 0 || e.Kind == 2 && below(e.At, e.N, pageBound)
	return where && below(e.From, e.N, sectorBound)
}

// goodExts are extents that may be, each at some edge.
func goodExts() []api.Ext {
	return []api.Ext{
		zero(0, 1), zero(0, 2), zero(7, 1), zero(0, sectorBound), zero(1, sectorBound-1), zero(sectorBound-1, 1), zero(sectorBound/2, sectorBound/2),
		run(0, 1, 0), run(0, 1, 1), run(3, 2, 7), run(0, 1, 2047), run(0, 2048, 0), run(0, 2047, 1), run(5, 2, 2046),
		run(sectorBound-1, 1, 0), run(sectorBound-1, 1, 2047), run(sectorBound-2048, 2048, 0),
	}
}

// badExts are extents that may not be, each for one thing alone.
func badExts() []api.Ext {
	l := []api.Ext{
		{},
		{From: 0, N: 1, Kind: api.Hole}, {From: 0, N: 1, Kind: 3}, {From: 0, N: 1, Kind: -1}, {From: 0, N: 1, Kind: 257}, {From: 0, N: 1, Kind: 1<<32 + 1}, {From: 0, N: 1, Kind: math.MinInt}, {From: 0, N: 1, Kind: math.MaxInt},
		{From: 0, N: 1, Kind: api.ExtZero, At: 1}, {From: 0, N: 1, Kind: api.ExtZero, At: -1}, {From: 0, N: 1, Kind: api.ExtZero, At: 2048}, {From: 0, N: 1, Kind: api.ExtZero, At: 1 << 32},
		run(0, 2049, 0), run(0, 2048, 1), run(0, 2, 2047), run(0, 1, 2048), run(0, 1, -1), run(0, 2, -1), run(0, 1, math.MaxInt), run(0, 2, math.MaxInt), run(0, 1, math.MinInt), run(0, 1, 1<<32),
	}
	for _, n := range []int{0, -1, -2, math.MinInt, math.MinInt + 1} {
		l = append(l, zero(0, n), zero(5, n), run(5, n, 5), zero(sectorBound, n))
	}
	for _, from := range []int{-1, -2, math.MinInt, math.MinInt + 1, sectorBound, sectorBound + 1, 1 << 32, 1 << 62, math.MaxInt - 1, math.MaxInt} {
		l = append(l, zero(from, 1), zero(from, 2), run(from, 2, 7))
	}
	return append(l, zero(0, sectorBound+1), zero(1, sectorBound), zero(sectorBound-1, 2), zero(0, math.MaxInt), zero(1, math.MaxInt), zero(math.MaxInt, math.MaxInt), zero(math.MinInt, math.MinInt), run(sectorBound-2047, 2048, 0))
}

// badLists are lists that may not be, by why.
func badLists() map[string][]api.Ext {
	return map[string][]api.Ext{
		"an extent that may not be":         {zero(0, 0)},
		"the first of them may not be":      {run(0, 1, 2048), zero(5, 1)},
		"the last of them may not be":       {zero(0, 1), zero(5, 1), {From: 9, N: 1}},
		"the middle one may not be":         {zero(0, 1), zero(5, -1), zero(9, 1)},
		"two alike":                         {zero(3, 2), zero(3, 2)},
		"the first one goes over the next":  {zero(0, 3), run(2, 2, 7)},
		"the first one goes around another": {zero(0, 9), run(2, 2, 7)},
		"the next one goes around":          {run(2, 2, 7), zero(0, 9)},
		"one behind goes over it by one":    {run(2, 4, 7), run(5, 2, 100)},
		"in another order":                  {zero(5, 1), zero(0, 1)},
		"in another order, and they touch":  {zero(5, 1), run(4, 1, 7)},
		"the last ones in another order":    {zero(0, 1), zero(9, 1), zero(5, 1)},
		"zeros that go together":            {zero(0, 3), zero(3, 2)},
		"runs that go together":             {run(0, 3, 7), run(3, 2, 10)},
		"the last ones go together":         {zero(0, 1), run(2, 3, 7), run(5, 2, 10)},
		"the first of all goes over a last": {zero(0, 9), zero(20, 1), zero(5, 1)},
	}
}

// goodLists are lists that may be.
func goodLists() [][]api.Ext {
	return [][]api.Ext{
		nil,
		{},
		{zero(0, 1)},
		{run(3, 2, 7)},
		{zero(0, sectorBound)},
		{zero(0, 3), run(3, 2, 7), zero(5, 5)},
		{run(0, 3, 7), run(3, 2, 11)},
		{run(0, 3, 7), run(3, 2, 9)},
		{run(0, 3, 7), run(3, 3, 7)},
		{run(0, 3, 7), run(4, 2, 10)},
		{run(0, 3, 7), run(4, 2, 11)},
		{zero(0, 3), zero(4, 2)},
		{run(0, 1, 2047), run(1, 1, 0)},
		{zero(sectorBound-3, 1), run(sectorBound-2, 1, 0), zero(sectorBound-1, 1)},
		{run(0, 2048, 0), run(2048, 2048, 0), zero(5000, 3)},
	}
}

// badRanges are ranges that may not be; the second of each is how many.
func badRanges() [][2]int {
	return [][2]int{
		{-1, 0}, {-1, 1}, {-1, 2}, {0, -1}, {1, -1}, {sectorBound, -1}, {sectorBound + 1, -1}, {sectorBound + 1, 0}, {sectorBound, 1}, {sectorBound - 1, 2}, {0, sectorBound + 1}, {1, sectorBound},
		{math.MinInt, 0}, {math.MinInt, math.MaxInt}, {math.MinInt, math.MinInt}, {math.MaxInt, 0}, {math.MaxInt, 1}, {math.MaxInt, math.MaxInt}, {math.MaxInt, math.MinInt}, {0, math.MaxInt}, {1, math.MaxInt}, {0, math.MinInt}, {5, math.MinInt}, {1 << 32, 1}, {1 << 62, 1 << 62},
	}
}

// is looks at an answer of Cut, Over or Clip.
func is(t *testing.T, what string, got []api.Ext, e api.Errno, want []api.Ext) {
	t.Helper()
	if e != api.OK || !slices.Equal(got, want) {
		t.Errorf("%s: %v, %d; want %v", what, got, e, want)
	}
}

// refused looks at an answer of Cut, Over or Clip of what may not be.
func refused(t *testing.T, what string, got []api.Ext, e api.Errno) {
	t.Helper()
	if got != nil || e != api.ErrArg {
		t.Errorf("%s: %v, %d; want ErrArg", what, got, e)
	}
}

// 7.1: extents at the edges may be; those that are wrong in one thing may not.
func TestOne(t *testing.T) {
	for _, e := range goodExts() {
		if !ext.One(e) {
			t.Errorf("One(%v): false", e)
		}
	}
	for _, e := range badExts() {
		if ext.One(e) {
			t.Errorf("One(%v): true", e)
		}
	}
}

// 7.1: all numbers near the bounds and far beyond them, each with each.
func TestOneOfAllNumbers(t *testing.T) {
	sectors, pages := numbers(sectorBound), numbers(pageBound)
	both := append(slices.Clone(sectors), pages...)
	for _, from := range sectors {
		for _, n := range both {
			for _, at := range pages {
				for kind := -1; kind <= 4; kind++ {
					e := api.Ext{From: from, N: n, Kind: kind, At: at}
					if got := ext.One(e); got != mayBe(e) {
						t.Errorf("One(%v): %t; want %t", e, got, mayBe(e))
					}
				}
			}
		}
	}
}

// joins looks at what two extents are together; nothing is an extent of none.
func joins(t *testing.T, a, b, want api.Ext) {
	t.Helper()
	if got, ok := ext.Joined(a, b); got != want || ok != (want != api.Ext{}) {
		t.Errorf("Joined(%v, %v): %v, %t; want %v", a, b, got, ok, want)
	}
}

// 7.1: two that go together are one, up to the bounds.
func TestJoined(t *testing.T) {
	joins(t, zero(0, 3), zero(3, 2), zero(0, 5))
	joins(t, zero(5, 1), zero(6, 1), zero(5, 2))
	joins(t, run(0, 3, 7), run(3, 2, 10), run(0, 5, 7))
	joins(t, run(9, 1, 0), run(10, 1, 1), run(9, 2, 0))
	joins(t, zero(0, 1), zero(1, sectorBound-1), zero(0, sectorBound))
	joins(t, zero(0, sectorBound-1), zero(sectorBound-1, 1), zero(0, sectorBound))
	joins(t, run(0, 2047, 0), run(2047, 1, 2047), run(0, 2048, 0))
	joins(t, run(sectorBound-2048, 1, 0), run(sectorBound-2047, 2047, 1), run(sectorBound-2048, 2048, 0))
}

// 7.1: two that differ in one thing alone from such that go together are not one.
func TestJoinedOfOthers(t *testing.T) {
	nothing := api.Ext{}
	for _, from := range []int{0, 2, 4, 5} {
		joins(t, zero(0, 3), zero(from, 2), nothing)
		joins(t, run(0, 3, 7), run(from, 2, 10), nothing)
		joins(t, run(0, 3, 7), run(from, 2, 7+from), nothing)
	}
	for _, at := range []int{0, 7, 9, 11, 12} {
		joins(t, run(0, 3, 7), run(3, 2, at), nothing)
	}
	joins(t, zero(0, 3), run(3, 2, 0), nothing)
	joins(t, zero(0, 3), run(3, 2, 3), nothing)
	joins(t, run(0, 3, 0), zero(3, 2), nothing)
	joins(t, zero(3, 2), zero(0, 3), nothing)
	joins(t, run(3, 2, 10), run(0, 3, 7), nothing)
	joins(t, zero(0, 3), zero(0, 3), nothing)
}

// 7.1: two of which one may not be are not one, though they touch; so the joined one is never beyond the bounds.
func TestJoinedOfWhatMayNotBe(t *testing.T) {
	nothing := api.Ext{}
	joins(t, nothing, nothing, nothing)
	joins(t, zero(0, sectorBound), zero(sectorBound, 1), nothing)
	joins(t, zero(0, sectorBound-1), zero(sectorBound-1, 2), nothing)
	joins(t, zero(-1, 1), zero(0, 1), nothing)
	joins(t, run(0, 2048, 0), run(2048, 1, 2048), nothing)
	joins(t, run(0, 2047, 0), run(2047, 2, 2047), nothing)
	joins(t, run(0, 1, -1), run(1, 1, 0), nothing)
	joins(t, zero(0, 3), zero(3, 0), nothing)
	joins(t, zero(0, 3), zero(3, -1), nothing)
	joins(t, zero(3, 0), zero(3, 2), nothing)
	joins(t, api.Ext{From: 0, N: 3}, api.Ext{From: 3, N: 2}, nothing)
	joins(t, api.Ext{From: 0, N: 3, Kind: 3}, api.Ext{From: 3, N: 2, Kind: 3}, nothing)
	joins(t, api.Ext{From: 0, N: 3, Kind: 1, At: 1}, api.Ext{From: 3, N: 2, Kind: 1, At: 1}, nothing)
	joins(t, zero(0, 3), api.Ext{From: 3, N: 2, Kind: 1, At: 3}, nothing)
	joins(t, zero(1, math.MaxInt), zero(math.MinInt, 1), nothing)
	for _, e := range badExts() {
		for _, good := range goodExts() {
			joins(t, good, e, nothing)
			joins(t, e, good, nothing)
		}
		joins(t, e, api.Ext{From: e.From + e.N, N: 1, Kind: e.Kind, At: e.At + e.N}, nothing)
		joins(t, e, api.Ext{From: e.From + e.N, N: 1, Kind: e.Kind, At: e.At}, nothing)
	}
}

// 7.1: lists that may be, and those that may not.
func TestCheck(t *testing.T) {
	for _, l := range goodLists() {
		if !ext.Check(l) {
			t.Errorf("Check(%v): false", l)
		}
	}
	for why, l := range badLists() {
		if ext.Check(l) {
			t.Errorf("%s: Check(%v): true", why, l)
		}
	}
	for _, e := range goodExts() {
		if !ext.Check([]api.Ext{e}) {
			t.Errorf("Check of %v alone: false", e)
		}
	}
	for _, e := range badExts() {
		if ext.Check([]api.Ext{e}) || ext.Check([]api.Ext{zero(1000, 1), e}) || ext.Check([]api.Ext{e, zero(1000, 1)}) {
			t.Errorf("Check of a list with %v: true", e)
		}
	}
}

// 7.2: the chapter's example.
func TestExample(t *testing.T) {
	l, e := ext.Over([]api.Ext{zero(0, 10)}, run(3, 2, 7))
	is(t, "Over", l, e, []api.Ext{zero(0, 3), run(3, 2, 7), zero(5, 5)})
	l, e = ext.Cut(l, 4, 2)
	is(t, "Cut", l, e, []api.Ext{zero(0, 3), run(3, 1, 7), zero(6, 4)})
}

// 7.2: a range before, within, across, around and behind extents, of none and of all sectors.
func TestCutAndClip(t *testing.T) {
	l := []api.Ext{zero(2, 3), run(5, 4, 7), run(20, 4, 100)}
	for _, x := range []struct {
		what    string
		from, n int
		cut     []api.Ext
		clip    []api.Ext
	}{
		{"before all", 0, 2, l, nil},
		{"none, before all", 0, 0, l, nil},
		{"none, within a zero", 3, 0, l, nil},
		{"none, within a run", 6, 0, l, nil},
		{"none, where two touch", 5, 0, l, nil},
		{"none, behind all sectors", sectorBound, 0, l, nil},
		{"between", 9, 11, l, nil},
		{"behind all", 24, sectorBound - 24, l, nil},
		{"within a run", 6, 2, []api.Ext{zero(2, 3), run(5, 1, 7), run(8, 1, 10), run(20, 4, 100)}, []api.Ext{run(6, 2, 8)}},
		{"within a zero", 3, 1, []api.Ext{zero(2, 1), zero(4, 1), run(5, 4, 7), run(20, 4, 100)}, []api.Ext{zero(3, 1)}},
		{"the first of a run", 20, 1, []api.Ext{zero(2, 3), run(5, 4, 7), run(21, 3, 101)}, []api.Ext{run(20, 1, 100)}},
		{"the last of a run", 23, 1, []api.Ext{zero(2, 3), run(5, 4, 7), run(20, 3, 100)}, []api.Ext{run(23, 1, 103)}},
		{"across two that touch", 4, 2, []api.Ext{zero(2, 2), run(6, 3, 8), run(20, 4, 100)}, []api.Ext{zero(4, 1), run(5, 1, 7)}},
		{"across a hole", 8, 13, []api.Ext{zero(2, 3), run(5, 3, 7), run(21, 3, 101)}, []api.Ext{run(8, 1, 10), run(20, 1, 100)}},
		{"just one", 5, 4, []api.Ext{zero(2, 3), run(20, 4, 100)}, []api.Ext{run(5, 4, 7)}},
		{"around one", 4, 6, []api.Ext{zero(2, 2), run(20, 4, 100)}, []api.Ext{zero(4, 1), run(5, 4, 7)}},
		{"just all", 2, 22, nil, l},
		{"all sectors", 0, sectorBound, nil, l},
	} {
		got, e := ext.Cut(l, x.from, x.n)
		is(t, x.what+": Cut", got, e, x.cut)
		got, e = ext.Clip(l, x.from, x.n)
		is(t, x.what+": Clip", got, e, x.clip)
	}
}

// 7.2: an extent over others, those with which it goes together among them.
func TestOver(t *testing.T) {
	l := []api.Ext{zero(2, 3), run(5, 4, 7), run(20, 4, 100)}
	for _, x := range []struct {
		what string
		e    api.Ext
		want []api.Ext
	}{
		{"before all", zero(0, 1), []api.Ext{zero(0, 1), zero(2, 3), run(5, 4, 7), run(20, 4, 100)}},
		{"before all, together", zero(0, 2), []api.Ext{zero(0, 5), run(5, 4, 7), run(20, 4, 100)}},
		{"before all, over the first", zero(0, 3), []api.Ext{zero(0, 5), run(5, 4, 7), run(20, 4, 100)}},
		{"the same again", run(5, 4, 7), l},
		{"a part of the same again", run(6, 2, 8), l},
		{"a part at another page", run(6, 2, 9), []api.Ext{zero(2, 3), run(5, 1, 7), run(6, 2, 9), run(8, 1, 10), run(20, 4, 100)}},
		{"within a run", zero(6, 2), []api.Ext{zero(2, 3), run(5, 1, 7), zero(6, 2), run(8, 1, 10), run(20, 4, 100)}},
		{"behind a run, together", run(9, 3, 11), []api.Ext{zero(2, 3), run(5, 7, 7), run(20, 4, 100)}},
		{"behind a run, at another page", run(9, 3, 12), []api.Ext{zero(2, 3), run(5, 4, 7), run(9, 3, 12), run(20, 4, 100)}},
		{"ahead of a run, together", run(18, 2, 98), []api.Ext{zero(2, 3), run(5, 4, 7), run(18, 6, 98)}},
		{"over the end of one, together", run(7, 5, 9), []api.Ext{zero(2, 3), run(5, 7, 7), run(20, 4, 100)}},
		{"a zero over a run, together with the zero ahead", zero(5, 2), []api.Ext{zero(2, 5), run(7, 2, 9), run(20, 4, 100)}},
		{"around one", run(4, 6, 50), []api.Ext{zero(2, 2), run(4, 6, 50), run(20, 4, 100)}},
		{"from one to another", zero(7, 15), []api.Ext{zero(2, 3), run(5, 2, 7), zero(7, 15), run(22, 2, 102)}},
		{"behind all", run(sectorBound-1, 1, 2047), []api.Ext{zero(2, 3), run(5, 4, 7), run(20, 4, 100), run(sectorBound-1, 1, 2047)}},
		{"all sectors", zero(0, sectorBound), []api.Ext{zero(0, sectorBound)}},
	} {
		got, e := ext.Over(l, x.e)
		is(t, x.what, got, e, x.want)
	}
	got, e := ext.Over([]api.Ext{run(0, 3, 7), run(5, 3, 12)}, run(3, 2, 10))
	is(t, "between two that it joins", got, e, []api.Ext{run(0, 8, 7)})
	got, e = ext.Over([]api.Ext{zero(0, 3), run(3, 1, 9), zero(4, 3)}, zero(3, 1))
	is(t, "in the place of what parts two", got, e, []api.Ext{zero(0, 7)})
	got, e = ext.Over(nil, run(3, 2, 7))
	is(t, "over nothing", got, e, []api.Ext{run(3, 2, 7)})
}

// 7.2: the greatest lists and extents.
func TestTheGreatest(t *testing.T) {
	all := []api.Ext{zero(0, sectorBound)}
	got, e := ext.Cut(all, 0, 1)
	is(t, "Cut of the first", got, e, []api.Ext{zero(1, sectorBound-1)})
	got, e = ext.Cut(all, sectorBound-1, 1)
	is(t, "Cut of the last", got, e, []api.Ext{zero(0, sectorBound-1)})
	got, e = ext.Cut(all, 1, sectorBound-2)
	is(t, "Cut of all but the ends", got, e, []api.Ext{zero(0, 1), zero(sectorBound-1, 1)})
	got, e = ext.Clip(all, sectorBound-1, 1)
	is(t, "Clip of the last", got, e, []api.Ext{zero(sectorBound-1, 1)})
	got, e = ext.Over(all, run(sectorBound-2048, 2048, 0))
	is(t, "Over with the greatest run", got, e, []api.Ext{zero(0, sectorBound-2048), run(sectorBound-2048, 2048, 0)})
	if n := ext.Count(all); n != sectorBound {
		t.Errorf("Count: %d", n)
	}
}

// 7.2: lists, ranges and extents that may not be are refused, alone and together.
func TestWhatMayNotBeIsRefused(t *testing.T) {
	for why, l := range badLists() {
		got, e := ext.Cut(l, 0, 1)
		refused(t, why+": Cut", got, e)
		got, e = ext.Cut(l, 0, 0)
		refused(t, why+": Cut of none", got, e)
		got, e = ext.Cut(l, 0, sectorBound)
		refused(t, why+": Cut of all", got, e)
		got, e = ext.Clip(l, 0, 1)
		refused(t, why+": Clip", got, e)
		got, e = ext.Clip(l, 100, 0)
		refused(t, why+": Clip of none", got, e)
		got, e = ext.Over(l, zero(0, sectorBound))
		refused(t, why+": Over", got, e)
		got, e = ext.Over(l, api.Ext{})
		refused(t, why+": Over of nothing", got, e)
		got, e = ext.Clip(l, -1, 0)
		refused(t, why+": Clip of no range", got, e)
	}
	for _, l := range goodLists() {
		for _, r := range badRanges() {
			got, e := ext.Cut(l, r[0], r[1])
			refused(t, "Cut of no range", got, e)
			got, e = ext.Clip(l, r[0], r[1])
			refused(t, "Clip of no range", got, e)
		}
		for _, x := range badExts() {
			got, e := ext.Over(l, x)
			refused(t, "Over of no extent", got, e)
		}
	}
}

// finds looks at what a list says of a sector.
func finds(t *testing.T, l []api.Ext, sector, kind, at int) {
	t.Helper()
	if k, a := ext.Find(l, sector); k != kind || a != at {
		t.Errorf("Find(%v, %d): %d, %d; want %d, %d", l, sector, k, a, kind, at)
	}
}

// 7.3: what a list says of each sector, and of those that are none.
func TestFind(t *testing.T) {
	l := []api.Ext{zero(2, 3), run(5, 4, 7), run(20, 1, 2047), zero(sectorBound-1, 1)}
	for _, sector := range []int{0, 1, 9, 19, 21, sectorBound - 2, sectorBound, sectorBound + 1, -1, -2, 1 << 32, 1<<32 + 5, math.MinInt, math.MinInt + 5, math.MaxInt} {
		finds(t, l, sector, api.Hole, 0)
		finds(t, nil, sector, api.Hole, 0)
	}
	for _, sector := range []int{2, 3, 4, sectorBound - 1} {
		finds(t, l, sector, api.ExtZero, 0)
	}
	for i, sector := range []int{5, 6, 7, 8} {
		finds(t, l, sector, api.ExtRun, 7+i)
	}
	finds(t, l, 20, api.ExtRun, 2047)
	finds(t, []api.Ext{run(0, 1, 0)}, 0, api.ExtRun, 0)
}

// 7.3: of several extents that have a sector the first one says, whatever list they are.
func TestFindInListsThatMayNotBe(t *testing.T) {
	over := []api.Ext{run(4, 3, 7), zero(0, 9), run(2, 9, 100)}
	finds(t, over, 5, api.ExtRun, 8)
	finds(t, over, 3, api.ExtZero, 0)
	finds(t, over, 8, api.ExtZero, 0)
	finds(t, over, 9, api.ExtRun, 107)
	finds(t, over, 11, api.Hole, 0)
	finds(t, []api.Ext{zero(9, 2), run(0, 3, 7)}, 2, api.ExtRun, 9)
	finds(t, []api.Ext{run(0, 3, 7), run(3, 2, 10)}, 3, api.ExtRun, 10)
	for _, e := range badExts() {
		for _, sector := range []int{math.MinInt, -1, 0, 5, sectorBound, math.MaxInt} {
			ext.Find([]api.Ext{e}, sector)
		}
		// None of these extents has the sector 123456, whatever is said of it: all its numbers are below it, or its N is below 1, or wraps round.
		if e.From <= 123456 && e.N > 123456-e.From {
			continue
		}
		finds(t, []api.Ext{e}, 123456, api.Hole, 0)
		finds(t, []api.Ext{e, run(123455, 2, 7)}, 123456, api.ExtRun, 8)
		finds(t, []api.Ext{run(123455, 2, 7), e}, 123456, api.ExtRun, 8)
	}
}

// 7.3: how many sectors a list has, and its pages in the order of its runs.
func TestCountAndPages(t *testing.T) {
	for _, x := range []struct {
		l     []api.Ext
		count int
		pages []int
	}{
		{nil, 0, nil},
		{[]api.Ext{}, 0, nil},
		{[]api.Ext{zero(0, 5)}, 5, nil},
		{[]api.Ext{zero(0, sectorBound-1), run(sectorBound-1, 1, 2047)}, sectorBound, []int{2047}},
		{[]api.Ext{run(0, 1, 0)}, 1, []int{0}},
		{[]api.Ext{run(0, 2, 9), zero(2, 3), run(7, 3, 4)}, 8, []int{9, 10, 4, 5, 6}},
		{[]api.Ext{run(0, 2, 9), run(2, 2, 9), run(4, 1, 3)}, 5, []int{9, 10, 9, 10, 3}},
		{[]api.Ext{run(0, 2, 9), run(5, 2, 11)}, 4, []int{9, 10, 11, 12}},
	} {
		if n := ext.Count(x.l); n != x.count {
			t.Errorf("Count(%v): %d; want %d", x.l, n, x.count)
		}
		if p := ext.Pages(x.l); !slices.Equal(p, x.pages) {
			t.Errorf("Pages(%v): %v; want %v", x.l, p, x.pages)
		}
	}
	for why, l := range badLists() {
		if n, p := ext.Count(l), ext.Pages(l); n != 0 || p != nil {
			t.Errorf("%s: Count and Pages(%v): %d, %v; want none", why, l, n, p)
		}
	}
	for _, e := range badExts() {
		l := []api.Ext{run(0, 2, 7), e}
		if n, p := ext.Count(l), ext.Pages(l); n != 0 || p != nil {
			t.Errorf("Count and Pages(%v): %d, %v; want none", l, n, p)
		}
	}
}

// R3: an answer shares no memory with the list that was handed in, which stays as it was.
func TestNothingIsShared(t *testing.T) {
	for _, l := range goodLists() {
		was := slices.Clone(l)
		cut, _ := ext.Cut(l, sectorBound-1, 0)
		over, _ := ext.Over(l, run(sectorBound-1, 1, 2047))
		clip, _ := ext.Clip(l, 0, sectorBound)
		for _, answer := range [][]api.Ext{cut, over, clip} {
			answer = answer[:cap(answer)]
			for i := range answer {
				answer[i] = api.Ext{From: -1, N: -1, Kind: -1, At: -1}
			}
		}
		pages := ext.Pages(l)
		again := ext.Pages(l)
		for i := range pages {
			pages[i] = -1
		}
		if !slices.Equal(l, was) || slices.Contains(again, -1) {
			t.Errorf("%v became %v", was, l)
		}
	}
}
