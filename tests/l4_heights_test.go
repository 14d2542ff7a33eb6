package tests

import (
	"math"
	"slices"
	"testing"

	"loop.example/dominotilings/impl"
)

func TestP11HeightsTellTheTiling(t *testing.T) {
	for _, r := range simpleRegions() {
		lines := linesOf(r)
		var first []int
		for _, laid := range impl.TilingsAll(r) {
			heights := impl.HeightsOf(r, laid)
			if !slices.Equal(heights, toldHeights(r, laid)) || !mayBeHeights(r, lines, heights) || !impl.HeightsOk(r, heights) {
				t.Fatal(impl.LaidText(r, laid), heights)
			}
			if back, ok := impl.TilingBy(r, heights); !ok || !slices.Equal(back, laid) {
				t.Fatal(impl.LaidText(r, laid), impl.LaidText(r, back))
			}
			if first == nil {
				first = heights
			}
			for corner, height := range heights {
				if (height-first[corner])%4 != 0 {
					t.Fatal(impl.LaidText(r, laid), heights, first)
				}
			}
		}
	}
}

func TestP11HeightsOfTexts(t *testing.T) {
	const none = impl.NoHeight
	for text, want := range map[string][]int{
		"ew":      {0, 1, 0, -1, -2, -1},
		"s/n":     {0, 1, -1, 2, 0, 1},
		"ew/ew":   {0, 1, 0, -1, -2, -1, 0, 1, 0},
		"ss/nn":   {0, 1, 0, -1, 2, -1, 0, 1, 0},
		".ew":     {none, 0, -1, 0, none, 1, 2, 1},
		"ew.":     {0, 1, 0, none, -1, -2, -1, none},
		"..s/..n": {none, none, 0, 1, none, none, -1, 2, none, none, 0, 1},
		"ew/..":   {none, none, none, 0, -1, 0, 1, 2, 1},
		"s./n./..": {
			none, none, none,
			0, -1, none,
			1, -2, none,
			0, -1, none,
		},
		"ews/..n": {none, none, 0, 1, -1, -2, -1, 2, 0, 1, 0, 1},
		".ew/ew.": {0, 1, 0, none, -1, -2, -1, -2, none, -3, -4, -3},
		"......":  nil,
	} {
		r, laid, ok := impl.ReadLaid(text)
		if heights := impl.HeightsOf(r, laid); !ok || !slices.Equal(heights, want) {
			t.Error(text, heights)
		}
	}
}

func TestP11OnlyTilingsOfSimpleRegionsHaveHeights(t *testing.T) {
	for _, f := range noTilings(t) {
		if heights := impl.HeightsOf(f.r, f.laid); len(heights) != 0 {
			t.Fatal(f, heights)
		}
	}
}

// TestP12RightHeightsAreThoseOfATiling goes through all right lists, told without tilings, of the regions of small fields.
func TestP12RightHeightsAreThoseOfATiling(t *testing.T) {
	for _, r := range simpleRegions() {
		if len(r.Cells) > 12 {
			continue
		}
		for _, heights := range rightHeights(r) {
			laid, ok := impl.TilingBy(r, heights)
			if !ok || !impl.HeightsOk(r, heights) || !slices.Equal(impl.HeightsOf(r, laid), heights) {
				t.Fatal(impl.RegionText(r), heights, laid, ok)
			}
		}
	}
}

func TestP85DominoesLieWhereHeightsJump(t *testing.T) {
	for _, r := range simpleRegions() {
		if len(r.Cells) > 12 {
			continue
		}
		var tilings [][]int
		for _, heights := range rightHeights(r) {
			laid, ok := impl.TilingBy(r, heights)
			if !ok || !impl.TilingOk(r, laid) {
				t.Fatal(impl.RegionText(r), heights, laid)
			}
			checkJumps(t, r, heights, laid)
			tilings = append(tilings, laid)
		}
		slices.SortFunc(tilings, slices.Compare[[]int])
		if !sameLists(tilings, impl.TilingsAll(r)) {
			t.Fatal(impl.RegionText(r), tilings)
		}
	}
}

// checkJumps looks for a domino across each side between two cells along which the height changes by 3.
func checkJumps(t *testing.T, r impl.Region, heights []int, laid []int) {
	t.Helper()
	all := dominoesOf(r, laid)
	for _, l := range linesOf(r) {
		rise := heights[cornerIndex(r, l.to)] - heights[cornerIndex(r, l.from)]
		across := all[domino{l.left, l.right}] || all[domino{l.right, l.left}]
		if across != (rise == 3 || rise == -3) {
			t.Fatal(impl.LaidText(r, laid), heights, l)
		}
	}
}

// checkMayBe holds HeightsOk and TilingBy of any list against what the document says of lists.
func checkMayBe(t *testing.T, r impl.Region, lines []line, heights []int) {
	t.Helper()
	want := mayBeHeights(r, lines, heights)
	laid, told := impl.TilingBy(r, heights)
	if impl.HeightsOk(r, heights) != want || told != want || !want && len(laid) != 0 {
		t.Fatal(impl.RegionText(r), heights, want, laid)
	}
}

// TestP85ChangedHeights changes the height of each corner in turn, and of all corners by as much, in one region of nine.
func TestP85ChangedHeights(t *testing.T) {
	for i, r := range simpleRegions() {
		if i%9 != 0 {
			continue
		}
		lines := linesOf(r)
		for _, laid := range someTilings(r, 2) {
			heights := toldHeights(r, laid)
			for corner := range heights {
				for _, change := range []int{-8, -4, -3, -2, -1, 1, 2, 3, 4, 8} {
					changed := slices.Clone(heights)
					changed[corner] += change
					checkMayBe(t, r, lines, changed)
				}
				for _, height := range []int{impl.NoHeight, -impl.NoHeight, 0, 1, 60, 61, -60, -61, 100, math.MinInt, math.MaxInt} {
					changed := slices.Clone(heights)
					changed[corner] = height
					checkMayBe(t, r, lines, changed)
				}
			}
			checkShifted(t, r, lines, heights)
		}
	}
}

// checkShifted moves all heights by as much, so that each side still grows as it should, and cuts the list.
func checkShifted(t *testing.T, r impl.Region, lines []line, heights []int) {
	t.Helper()
	for _, change := range []int{-60, -4, -1, 1, 4, 60, math.MinInt} {
		shifted := slices.Clone(heights)
		turned := slices.Clone(heights)
		for corner, height := range heights {
			if height != impl.NoHeight {
				shifted[corner] += change
				turned[corner] = -height
			}
		}
		checkMayBe(t, r, lines, shifted)
		checkMayBe(t, r, lines, turned)
	}
	for _, list := range [][]int{nil, {}, {0}, heights[1:], heights[:len(heights)-1], append(slices.Clone(heights), impl.NoHeight), append(slices.Clone(heights), 0), slices.Repeat(heights, 2)} {
		checkMayBe(t, r, lines, list)
	}
}

// TestP85JumpsHaveASign tries all lists that grow or fall by 1 or 3 between two cells, one way or the other. In the diamond some of these fit everywhere.
func TestP85JumpsHaveASign(t *testing.T) {
	for _, text := range []string{"##/##", "###/###", ".##./####/####/.##.", "####/####/####", ".##/###/###"} {
		r := region(t, text)
		lines := linesOf(r)
		lists := climbs(r, lines, func(l line) []int {
			if rises := risesOver(r, l); len(rises) == 1 {
				return rises
			}
			return []int{-3, -1, 1, 3}
		})
		for _, heights := range lists {
			checkMayBe(t, r, lines, heights)
		}
	}
}

// TestP85RegionsWithoutTilings tries lists that are right but for one side or one corner.
func TestP85RegionsWithoutTilings(t *testing.T) {
	for _, r := range simpleRegions() {
		if len(impl.TilingsAll(r)) > 0 {
			continue
		}
		lines := linesOf(r)
		bare := bareHeights(r, lines)
		if len(r.Cells) <= 12 && len(rightHeights(r)) > 0 {
			t.Fatal("heights without a tiling", impl.RegionText(r))
		}
		for _, heights := range [][]int{bare, slices.Repeat([]int{0}, len(bare)), slices.Repeat([]int{impl.NoHeight}, len(bare)), nil} {
			checkMayBe(t, r, lines, heights)
			if impl.HeightsOk(r, heights) {
				t.Fatal(impl.RegionText(r), heights)
			}
		}
	}
}

func TestP85HeightsOfTexts(t *testing.T) {
	const none = impl.NoHeight
	for _, c := range []struct {
		text    string
		heights []int
		tiling  string
	}{
		{"##", []int{0, 1, 0, -1, -2, -1}, "ew"},
		{"##", []int{0, 1, 0, -1, 2, -1}, ""},
		{"##", []int{0, 1, 0, -1, -2, -5}, ""},
		{"##", []int{0, 1, 0, 3, 2, 3}, ""},
		{"##", []int{0, -3, 0, -1, -2, -1}, ""},
		{"##", []int{4, 5, 4, 3, 2, 3}, ""},
		{"##", []int{0, 1, 0, -1, -2}, ""},
		{"##", []int{0, 1, 0, -1, -2, -1, none}, ""},
		{"##", []int{0, 1, 0, -1, none, -1}, ""},
		{"##/##", []int{0, 1, 0, -1, -2, -1, 0, 1, 0}, "ew/ew"},
		{"##/##", []int{0, 1, 0, -1, 2, -1, 0, 1, 0}, "ss/nn"},
		{"##/##", []int{0, 1, 0, -1, 6, -1, 0, 1, 0}, ""},
		{"##/##", []int{0, 1, 0, -1, -6, -1, 0, 1, 0}, ""},
		{"##/##", []int{0, 1, 0, -1, 0, -1, 0, 1, 0}, ""},
		{"##/##", []int{0, 1, 0, -1, none, -1, 0, 1, 0}, ""},
		{".##", []int{none, 0, -1, 0, none, 1, 2, 1}, ".ew"},
		{".##", []int{0, 0, -1, 0, none, 1, 2, 1}, ""},
		{".##", []int{0, 1, 0, 1, -1, 2, 3, 2}, ""},
		{".##", []int{none, 0, -1, 0, 60, 1, 2, 1}, ""},
		{".##", []int{none, 0, -1, 0, 98, 1, 2, 1}, ""},
		{"#", []int{0, 1, -1, 0}, ""},
		{"#", []int{0, 1, -1, -2}, ""},
	} {
		r := region(t, c.text)
		laid, ok := impl.TilingBy(r, c.heights)
		if ok != (c.tiling != "") || ok != impl.HeightsOk(r, c.heights) || ok && impl.LaidText(r, laid) != c.tiling || !ok && len(laid) != 0 {
			t.Error(c.text, c.heights, laid, ok)
		}
	}
}

// TestP85OtherRegionsHaveNoHeights takes the heights that go from corner to corner in regions that are not simple, too: some fit everywhere.
func TestP85OtherRegionsHaveNoHeights(t *testing.T) {
	for _, r := range twistedRegions(t) {
		many := (r.Wide + 1) * (r.Tall + 1)
		lists := [][]int{nil, make([]int, many), slices.Repeat([]int{impl.NoHeight}, many)}
		for _, laid := range impl.TilingsAll(r) {
			lists = append(lists, toldHeights(r, laid))
		}
		checkNoHeights(t, r, lists)
	}
	for _, r := range badRegions() {
		checkNoHeights(t, r, [][]int{nil, {}, {0}, make([]int, 4), {0, 1, -1, 0}, {0, 1, 0, -1, -2, -1}, make([]int, 36), make([]int, 49)})
	}
}

func checkNoHeights(t *testing.T, r impl.Region, lists [][]int) {
	t.Helper()
	for _, heights := range lists {
		laid, ok := impl.TilingBy(r, heights)
		if impl.HeightsOk(r, heights) || ok || len(laid) != 0 {
			t.Fatal(r, heights, laid)
		}
	}
}
