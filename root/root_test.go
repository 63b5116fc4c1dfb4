package root_test

import (
	"math"
	"slices"
	"strconv"
	"strings"
	"testing"

	"scoria/api"
	"scoria/root"
)

// mostGen is the greatest generation: 2^40 - 1.
const mostGen = 1099511627775

// example are the bytes of the chapter's example.
const example = "\x07\x00\x00\x00\x00\x01\x03\x00\x64\x00\x00\x00\x02\x01\x02"

// little is a number's bytes, the lowest first, worked out by division.
func little(n, wide int) string {
	var b []byte
	for range wide {
		b = append(b, byte(n%256))
		n /= 256
	}
	return string(b)
}

// bytesOf is what the bytes of a record are to be, whose tops stand as they are to be written.
func bytesOf(gen, count int, l []api.Space) string {
	s := little(gen, 5) + little(count, 1)
	for _, x := range l {
		s += little(x.ID, 2) + little(x.Size, 4) + little(x.Top, 2) + little(x.High, 1)
	}
	return s
}

// spaces are so many namespaces that may be, by numbers that rise by a step.
func spaces(n, step int) []api.Space {
	var l []api.Space
	for i := range n {
		x := api.Space{ID: 1 + i*step, Size: 100 * i, Top: 300 + i, High: 1 + i%6}
		if i%3 == 1 {
			x.Top, x.High = -1, 0
		}
		l = append(l, x)
	}
	return l
}

// written are the bytes of a record that may be.
func written(t *testing.T, gen int, l []api.Space) string {
	t.Helper()
	s, e := root.Write(gen, l)
	if e != api.OK {
		t.Fatalf("Write(%d, %v): %d", gen, l, e)
	}
	return s
}

func reads(t *testing.T, s string, gen int, l []api.Space, want api.Errno) {
	t.Helper()
	g, got, e := root.Read(s)
	if g != gen || !slices.Equal(got, l) || e != want {
		t.Errorf("Read(% x): %d, %v, %d; want %d, %v, %d", s, g, got, e, gen, l, want)
	}
}

// 12.1: the chapter's example.
func TestExample(t *testing.T) {
	l := []api.Space{{ID: 3, Size: 100, Top: 258, High: 2}}
	if s := written(t, 7, l); s != example {
		t.Errorf("Write: % x", s)
	}
	reads(t, example, 7, l, api.OK)
}

// good are records that may be: no namespaces, as many as may be, each number at its ends and between.
func good() map[string][]api.Space {
	l := map[string][]api.Space{
		"none":      nil,
		"all least": {{ID: 1, Size: 0, Top: -1, High: 0}},
		"all most":  {{ID: 65535, Size: 16777216, Top: 2047, High: 6}},
		"top 0":     {{ID: 1, Size: 1, Top: 0, High: 1}},
		"by one":    {{ID: 255, Top: -1}, {ID: 256, Top: -1}, {ID: 257, Top: -1}},
		"one top":   {{ID: 1, Top: 5, High: 1}, {ID: 2, Top: 5, High: 1}},
	}
	for n := range 9 {
		l[strconv.Itoa(n)] = spaces(n, 1)
		l[strconv.Itoa(n)+" far apart"] = spaces(n, 9000)
	}
	return l
}

// 12.1, 12.3: records that may be have their bytes, no more than a page's body holds, and are read from them.
func TestWriteAndRead(t *testing.T) {
	for name, l := range good() {
		for _, gen := range []int{0, 1, 255, 256, 1 << 32, mostGen - 1, mostGen} {
			kept := slices.Clone(l)
			s := written(t, gen, l)
			told := slices.Clone(l)
			for i, x := range told {
				if x.Top < 0 {
					told[i].Top = 0
				}
			}
			if want := bytesOf(gen, len(l), told); s != want || len(s) > 100 {
				t.Errorf("%s: Write: % x; want % x", name, s, want)
			}
			reads(t, s, gen, l, api.OK)
			if !slices.Equal(l, kept) {
				t.Errorf("%s: what was handed in was changed", name)
			}
		}
	}
	reads(t, written(t, 4, []api.Space{}), 4, nil, api.OK)
}

// wrong are namespaces that may not be, each for one thing.
func wrong() map[string][]api.Space {
	l := map[string][]api.Space{
		"one more":              spaces(9, 1),
		"many more":             spaces(300, 1),
		"no height, top 0":      {{ID: 1, Top: 0, High: 0}},
		"no height, top 1":      {{ID: 1, Top: 1, High: 0}},
		"no height, top 2047":   {{ID: 1, Top: 2047, High: 0}},
		"no height, top -2":     {{ID: 1, Top: -2, High: 0}},
		"equal":                 {{ID: 4, Top: -1}, {ID: 4, Top: -1}},
		"falling":               {{ID: 4, Top: -1}, {ID: 3, Top: -1}},
		"the last one falls":    {{ID: 1, Top: -1}, {ID: 9, Top: -1}, {ID: 8, Top: -1}},
		"the last one is wrong": {{ID: 1, Top: -1}, {ID: 2, Size: -1, Top: -1}},
	}
	far := []int{math.MinInt, math.MaxInt, 1 << 32, 1<<32 + 1, 1 << 40, -1 << 40}
	for name, set := range map[string]func(n int) api.Space{
		"ID":   func(n int) api.Space { return api.Space{ID: n, Size: 1, Top: 1, High: 1} },
		"Size": func(n int) api.Space { return api.Space{ID: 1, Size: n, Top: 1, High: 1} },
		"Top":  func(n int) api.Space { return api.Space{ID: 1, Size: 1, Top: n, High: 1} },
		"High": func(n int) api.Space { return api.Space{ID: 1, Size: 1, Top: 1, High: n} },
	} {
		ends := map[string][]int{"ID": {0, -1, 65536}, "Size": {-1, -2, 16777217}, "Top": {-1, -2, 2048, 65536}, "High": {-1, 0, 7, 256}}
		for _, n := range append(ends[name], far...) {
			l[name+" "+strconv.Itoa(n)] = []api.Space{set(n)}
		}
	}
	for high := 1; high <= 6; high++ {
		l["no top of height "+strconv.Itoa(high)] = []api.Space{{ID: 1, Top: -1, High: high}}
	}
	return l
}

// 12.1: what may not be a record has no bytes, and its bytes are none's.
func TestWrongSpaces(t *testing.T) {
	for name, l := range wrong() {
		if s, e := root.Write(1, l); s != "" || e != api.ErrArg {
			t.Errorf("%s: Write: % x, %d", name, s, e)
		}
	}
	for _, l := range [][]api.Space{
		{{ID: 0, Size: 1}},
		{{ID: 1, Size: 16777217}},
		{{ID: 1, Top: 2048, High: 1}},
		{{ID: 1, Top: 65535, High: 1}},
		{{ID: 1, Top: 1, High: 7}},
		{{ID: 1, Top: 1, High: 255}},
		{{ID: 1, Top: 1}},
		{{ID: 1, Top: 65535}},
		{{ID: 4}, {ID: 4}},
		{{ID: 4}, {ID: 3}},
		{{ID: 4}, {ID: 5, Top: 1}},
		slices.Repeat([]api.Space{{ID: 1}}, 8),
	} {
		reads(t, bytesOf(1, len(l), l), 0, nil, api.ErrForm)
	}
}

// 12.1: generations that may not be.
func TestWrongGenerations(t *testing.T) {
	for _, gen := range []int{-1, -2, mostGen + 1, mostGen + 2, 1 << 48, math.MinInt, math.MaxInt} {
		for n := range 3 {
			if s, e := root.Write(gen, spaces(n, 1)); s != "" || e != api.ErrArg {
				t.Errorf("Write(%d): % x, %d", gen, s, e)
			}
		}
	}
}

// 12.1, 12.3: bytes that are cut off, that have others behind them, or that tell another count.
func TestOtherBytes(t *testing.T) {
	for n := range 9 {
		s := written(t, 3, spaces(n, 2))
		for size := range len(s) {
			reads(t, s[:size], 0, nil, api.ErrForm)
		}
		reads(t, s+"\x00", 0, nil, api.ErrForm)
		reads(t, s+little(30, 2)+strings.Repeat("\x00", 7), 0, nil, api.ErrForm)
		for count := range 256 {
			if count != n {
				reads(t, s[:5]+little(count, 1)+s[6:], 0, nil, api.ErrForm)
			}
		}
	}
	reads(t, "", 0, nil, api.ErrForm)
	nine := spaces(9, 1)
	nine[1].Top, nine[4].Top, nine[7].Top = 0, 0, 0
	reads(t, bytesOf(1, 9, nine), 0, nil, api.ErrForm)
	reads(t, bytesOf(1, 255, slices.Repeat(nine[:1], 255)), 0, nil, api.ErrForm)
}

// 12.3: whatever single byte of a record is changed: what is read is just what is written.
func TestReadIsWritten(t *testing.T) {
	l := []api.Space{{ID: 3, Size: 100, Top: 258, High: 2}, {ID: 300, Size: 70000, Top: -1}, {ID: 65535, Size: 16777216, Top: 2047, High: 6}}
	s := written(t, 77, l)
	read := 0
	for at := range len(s) {
		for b := range 256 {
			x := s[:at] + string([]byte{byte(b)}) + s[at+1:]
			gen, got, e := root.Read(x)
			if e != api.OK {
				reads(t, x, 0, nil, api.ErrForm)
				continue
			}
			read++
			if again := written(t, gen, got); again != x {
				t.Errorf("Read(% x): %d, %v, whose bytes are % x", x, gen, got, again)
			}
		}
	}
	if read < 3000 {
		t.Errorf("%d were read", read)
	}
}

// 12.1: two answers share no memory.
func TestAnswersAreNew(t *testing.T) {
	_, a, _ := root.Read(example)
	_, b, _ := root.Read(example)
	clear(a)
	if b[0].ID != 3 {
		t.Error("Read: shared")
	}
	found := []api.Found{rootAt(t, 1, 1, 1), rootAt(t, 2, 2, 2)}
	kept := slices.Clone(found)
	roots := root.Roots(found)
	if !slices.Equal(found, kept) {
		t.Error("Roots changed what was handed in")
	}
	clear(roots)
	if !slices.Equal(found, kept) || len(root.Roots(found)) != 2 {
		t.Error("Roots: shared")
	}
}

// rootAt is a page with a record of no namespaces.
func rootAt(t *testing.T, gen, seq, at int) api.Found {
	t.Helper()
	return api.Found{At: at, P: api.Page{Kind: api.PageRoot, Seq: seq, Body: written(t, gen, nil)}}
}

// roots looks at the places of Roots.
func roots(t *testing.T, what string, found []api.Found, want ...int) {
	t.Helper()
	var got []int
	for _, f := range root.Roots(found) {
		got = append(got, f.At)
		if !slices.Contains(found, f) {
			t.Errorf("%s: %+v was not handed in", what, f)
		}
	}
	if !slices.Equal(got, want) {
		t.Errorf("%s: Roots: %v; want %v", what, got, want)
	}
}

// 12.2: of several things that records are sorted by, the one that is named first counts.
func TestRootsInOrder(t *testing.T) {
	roots(t, "nil", nil)
	roots(t, "empty", []api.Found{})
	roots(t, "one", []api.Found{rootAt(t, 0, 0, 5)}, 5)
	l := []api.Found{
		rootAt(t, 5, 9, 4),
		rootAt(t, 6, 1, 3),
		rootAt(t, 5, 10, 1),
		rootAt(t, mostGen, 0, 0),
		rootAt(t, 5, 9, 7),
		rootAt(t, 0, 300, 9),
		rootAt(t, 5, 9, 6),
		rootAt(t, 256, 2, 8),
	}
	want := []int{0, 8, 3, 1, 7, 6, 4, 9}
	for range len(l) {
		l = append(l[1:], l[0])
		roots(t, "turned", l, want...)
	}
	slices.Reverse(l)
	roots(t, "backwards", l, want...)
}

// 12.2: numbers that no page has are sorted, too, without a wrap.
func TestRootsFarApart(t *testing.T) {
	l := []api.Found{rootAt(t, 1, math.MinInt, 1), rootAt(t, 1, math.MaxInt, 2), rootAt(t, 1, 0, math.MinInt), rootAt(t, 1, 0, math.MaxInt)}
	roots(t, "far apart", l, 2, math.MaxInt, math.MinInt, 1)
}

// 12.2: pages that are alike in all that counts stay as they were handed in.
func TestRootsAlike(t *testing.T) {
	var l []api.Found
	for id := range 40 {
		f := rootAt(t, 1, 1, 1)
		f.P.Body = written(t, 1, []api.Space{{ID: 40 - id, Top: -1}})
		l = append(l, f)
	}
	if got := root.Roots(l); !slices.Equal(got, l) {
		t.Errorf("Roots: %v", got)
	}
}

// 12.2: pages that are no root record's.
func TestRootsPassOver(t *testing.T) {
	var l []api.Found
	for i, change := range []func(p *api.Page){
		func(p *api.Page) { p.Kind = api.PageData },
		func(p *api.Page) { p.Kind = api.PageLeaf },
		func(p *api.Page) { p.Kind = api.PageInner },
		func(p *api.Page) { p.Kind = 0 },
		func(p *api.Page) { p.Kind = 5 },
		func(p *api.Page) { p.Space = 1 },
		func(p *api.Page) { p.Space = -1 },
		func(p *api.Page) { p.Key = 1 },
		func(p *api.Page) { p.Key = -1 },
		func(p *api.Page) { p.Body = "" },
		func(p *api.Page) { p.Body += "\x00" },
		func(p *api.Page) { p.Body = p.Body[1:] },
		func(p *api.Page) { p.Body = p.Body[:5] + "\x01" },
	} {
		f := rootAt(t, 9, 9, 100+i)
		change(&f.P)
		l = append(l, f, rootAt(t, i, 1, i))
	}
	roots(t, "among others", l, 12, 11, 10, 9, 8, 7, 6, 5, 4, 3, 2, 1, 0)
	f := rootAt(t, 1, 2, 3)
	f.P.Body = example
	roots(t, "with a namespace", []api.Found{f, rootAt(t, 6, 9, 9), rootAt(t, 8, 0, 0)}, 0, 3, 9)
}

// 12.2: the first namespace of a number.
func TestFind(t *testing.T) {
	l := []api.Space{{ID: 3, Size: 1}, {ID: 5, Size: 2, Top: 7, High: 1}, {ID: 3, Size: 3}, {ID: 0, Size: 4}, {ID: -1, Size: 5}}
	for id, size := range map[int]int{3: 1, 5: 2, 0: 4, -1: 5} {
		if s, ok := root.Find(l, id); !ok || s.Size != size || s.ID != id {
			t.Errorf("Find(%d): %v, %t", id, s, ok)
		}
	}
	for _, id := range []int{1, 4, 6, 65536, -2, math.MinInt, math.MaxInt} {
		if s, ok := root.Find(l, id); ok || s != (api.Space{}) {
			t.Errorf("Find(%d): %v, %t", id, s, ok)
		}
	}
	for _, none := range [][]api.Space{nil, {}} {
		if s, ok := root.Find(none, 0); ok || s != (api.Space{}) {
			t.Errorf("Find in none: %v, %t", s, ok)
		}
	}
}
