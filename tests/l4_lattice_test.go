package tests

import (
	"slices"
	"testing"

	"loop.example/dominotilings/impl"
)

// hill is a tiling of a simple region with its heights, told by the tests.
type hill struct {
	laid    []int
	heights []int
}

// hillsOf returns all tilings of a simple region, or so many of them.
func hillsOf(r impl.Region, most int) []hill {
	var list []hill
	for _, laid := range someTilings(r, most) {
		list = append(list, hill{laid, toldHeights(r, laid)})
	}
	return list
}

// lesserOf takes the lesser height at each corner, and greaterOf the greater one.
func lesserOf(a []int, b []int) []int {
	var list []int
	for i := range a {
		list = append(list, min(a[i], b[i]))
	}
	return list
}

func greaterOf(a []int, b []int) []int {
	var list []int
	for i := range a {
		list = append(list, max(a[i], b[i]))
	}
	return list
}

// underneath reports whether no height is greater than the other one at its corner.
func underneath(a []int, b []int) bool {
	return slices.Equal(lesserOf(a, b), a)
}

// eachPair goes through pairs of tilings, also of a tiling and itself, of one simple region of two.
func eachPair(most int, check func(r impl.Region, a hill, b hill)) {
	for i, r := range simpleRegions() {
		if i%2 != 0 {
			continue
		}
		hills := hillsOf(r, most)
		for _, a := range hills {
			for _, b := range hills {
				check(r, a, b)
			}
		}
	}
}

// eachThree goes through three tilings each, of one simple region of three, if it has two tilings or more.
func eachThree(most int, check func(r impl.Region, a hill, b hill, c hill)) {
	for i, r := range simpleRegions() {
		hills := hillsOf(r, most)
		if i%3 != 0 || len(hills) < 2 {
			continue
		}
		for _, a := range hills {
			for _, b := range hills {
				for _, c := range hills {
					check(r, a, b, c)
				}
			}
		}
	}
}

// pair has two lists for a region.
type pair struct {
	r impl.Region
	a []int
	b []int
}

// oneWrong pairs each wrong list with itself, and with a right one in both places.
func oneWrong(r impl.Region, right []int, wrong [][]int) []pair {
	var list []pair
	for _, laid := range wrong {
		list = append(list, pair{r, laid, right}, pair{r, right, laid}, pair{r, laid, laid})
	}
	return list
}

// wrongHeightPairs returns pairs of lists of which one at least is no list of heights of a simple region.
func wrongHeightPairs(t *testing.T) []pair {
	t.Helper()
	const none = impl.NoHeight
	list := oneWrong(filled(2, 2, 4), []int{0, 1, 0, -1, -2, -1, 0, 1, 0}, [][]int{
		nil, {}, {0}, {0, 1, 0, -1, -2, -1, 0, 1}, {0, 1, 0, -1, -2, -1, 0, 1, 0, none},
		{0, 1, 0, -1, 0, -1, 0, 1, 0}, {0, 1, 0, -1, 6, -1, 0, 1, 0}, {0, 1, 0, -1, none, -1, 0, 1, 0},
		{4, 5, 4, 3, 2, 3, 4, 5, 4}, make([]int, 9), {1, 3, 1, 3},
	})
	list = append(list, oneWrong(region(t, ".##"), []int{none, 0, -1, 0, none, 1, 2, 1}, [][]int{
		{0, 0, -1, 0, none, 1, 2, 1}, {none, 0, -1, 0, none, 1, none, 1}, {0, 1, 0, -1, -2, -1}, {none, 1, 0, 1, none, 2, 3, 2},
	})...)
	for _, f := range noTilings(t) {
		list = append(list, pair{f.r, f.laid, f.laid}, pair{f.r, make([]int, 9), make([]int, 9)})
	}
	for _, r := range twistedRegions(t) {
		for _, laid := range impl.TilingsAll(r) {
			heights := toldHeights(r, laid)
			list = append(list, pair{r, heights, heights})
		}
	}
	return list
}

// wrongTilingPairs returns pairs of lists of which one at least is no tiling of a simple region.
func wrongTilingPairs(t *testing.T) []pair {
	t.Helper()
	list := oneWrong(filled(2, 2, 4), []int{1, 3, 1, 3}, [][]int{
		nil, {}, {1, 3}, {1, 3, 0, 0}, {0, 0, 0, 0}, {1, 3, 1}, {1, 3, 1, 3, 0}, {1, 3, 3, 1}, {5, 3, 1, 3}, {0, 1, 0, -1, -2, -1, 0, 1, 0},
	})
	for _, f := range noTilings(t) {
		list = append(list, pair{f.r, f.laid, f.laid})
	}
	return list
}

func TestP13TheLesserHeightsAreHeights(t *testing.T) {
	eachPair(4, func(r impl.Region, a hill, b hill) {
		low, high := impl.HeightsLow(r, a.heights, b.heights), impl.HeightsHigh(r, a.heights, b.heights)
		if !slices.Equal(low, lesserOf(a.heights, b.heights)) || !impl.HeightsOk(r, low) || !mayBeHeights(r, linesOf(r), low) {
			t.Fatal(impl.RegionText(r), a, b, low)
		}
		for corner := range low {
			if low[corner]+high[corner] != a.heights[corner]+b.heights[corner] {
				t.Fatal(impl.RegionText(r), a, b, low, high)
			}
		}
	})
	for _, p := range wrongHeightPairs(t) {
		if low := impl.HeightsLow(p.r, p.a, p.b); len(low) != 0 {
			t.Fatal(p, low)
		}
	}
}

func TestP14TheGreaterHeightsAreHeightsToo(t *testing.T) {
	eachPair(4, func(r impl.Region, a hill, b hill) {
		high := impl.HeightsHigh(r, a.heights, b.heights)
		if !slices.Equal(high, greaterOf(a.heights, b.heights)) || !impl.HeightsOk(r, high) || !mayBeHeights(r, linesOf(r), high) {
			t.Fatal(impl.RegionText(r), a, b, high)
		}
		if !slices.Equal(impl.HeightsHigh(r, b.heights, a.heights), high) {
			t.Fatal("exchanged", impl.RegionText(r), a, b)
		}
	})
	for _, p := range wrongHeightPairs(t) {
		if high := impl.HeightsHigh(p.r, p.a, p.b); len(high) != 0 {
			t.Fatal(p, high)
		}
	}
}

func TestP15TheLowOneHasTheLesserHeights(t *testing.T) {
	eachPair(4, func(r impl.Region, a hill, b hill) {
		low, ok := impl.TilingLow(r, a.laid, b.laid)
		if !ok || !impl.TilingOk(r, low) || !slices.Equal(toldHeights(r, low), lesserOf(a.heights, b.heights)) {
			t.Fatal(impl.RegionText(r), a, b, low)
		}
		if !impl.Below(r, low, a.laid) || !impl.Below(r, low, b.laid) {
			t.Fatal("above", impl.RegionText(r), a, b, low)
		}
		high, _ := impl.TilingHigh(r, a.laid, b.laid)
		if same, ok := impl.TilingLow(r, a.laid, high); !ok || !slices.Equal(same, a.laid) {
			t.Fatal("the low one of a tiling and the high one", impl.RegionText(r), a, b, same)
		}
	})
	for _, p := range wrongTilingPairs(t) {
		if low, ok := impl.TilingLow(p.r, p.a, p.b); ok || len(low) != 0 {
			t.Fatal(p, low)
		}
	}
}

func TestP15TilingsFormALattice(t *testing.T) {
	eachThree(3, func(r impl.Region, a hill, b hill, c hill) {
		over, _ := impl.TilingHigh(r, b.laid, c.laid)
		one, ok := impl.TilingLow(r, a.laid, over)
		first, _ := impl.TilingLow(r, a.laid, b.laid)
		second, _ := impl.TilingLow(r, a.laid, c.laid)
		other, told := impl.TilingHigh(r, first, second)
		if !ok || !told || !slices.Equal(one, other) {
			t.Fatal(impl.RegionText(r), a, b, c, one, other)
		}
	})
}

func TestP16OverTheLowOneItIsAsFar(t *testing.T) {
	eachPair(4, func(r impl.Region, a hill, b hill) {
		apart := impl.Apart(r, a.laid, b.laid)
		sum := 0
		for corner, height := range a.heights {
			sum += max(height, b.heights[corner]) - min(height, b.heights[corner])
		}
		if 4*apart != sum || impl.Apart(r, b.laid, a.laid) != apart {
			t.Fatal(impl.RegionText(r), a, b, apart, sum)
		}
		low, _ := impl.TilingLow(r, a.laid, b.laid)
		if impl.Apart(r, a.laid, low)+impl.Apart(r, low, b.laid) != apart {
			t.Fatal("over the low one", impl.RegionText(r), a, b, apart)
		}
		if (apart == 0) != slices.Equal(a.laid, b.laid) {
			t.Fatal("equal", impl.RegionText(r), a, b, apart)
		}
	})
	eachThree(3, func(r impl.Region, a hill, b hill, c hill) {
		if impl.Apart(r, a.laid, c.laid)+impl.Apart(r, c.laid, b.laid) < impl.Apart(r, a.laid, b.laid) {
			t.Fatal("over a third one", impl.RegionText(r), a, b, c)
		}
	})
	for _, p := range wrongTilingPairs(t) {
		if apart := impl.Apart(p.r, p.a, p.b); apart != -1 {
			t.Fatal(p, apart)
		}
	}
}

func TestP86HighsAreAbove(t *testing.T) {
	eachPair(4, func(r impl.Region, a hill, b hill) {
		high, ok := impl.TilingHigh(r, a.laid, b.laid)
		if !ok || !impl.TilingOk(r, high) || !slices.Equal(toldHeights(r, high), greaterOf(a.heights, b.heights)) {
			t.Fatal(impl.RegionText(r), a, b, high)
		}
		if !impl.Below(r, a.laid, high) || !impl.Below(r, b.laid, high) {
			t.Fatal("below", impl.RegionText(r), a, b, high)
		}
		if other, ok := impl.TilingHigh(r, b.laid, a.laid); !ok || !slices.Equal(other, high) {
			t.Fatal("exchanged", impl.RegionText(r), a, b, high, other)
		}
		if same, ok := impl.TilingHigh(r, a.laid, a.laid); !ok || !slices.Equal(same, a.laid) {
			t.Fatal("itself", impl.RegionText(r), a, same)
		}
	})
	for _, p := range wrongTilingPairs(t) {
		if high, ok := impl.TilingHigh(p.r, p.a, p.b); ok || len(high) != 0 {
			t.Fatal(p, high)
		}
	}
}

// checkExtreme looks for the tiling whose heights are the least, or the greatest, of those of all tilings.
func checkExtreme(t *testing.T, r impl.Region, tiling []int, ok bool, pick func(a []int, b []int) []int) {
	t.Helper()
	hills := hillsOf(r, 1<<16)
	if ok != (len(hills) > 0) || !ok && len(tiling) != 0 {
		t.Fatal(impl.RegionText(r), tiling, ok)
	}
	if !ok {
		return
	}
	heights := hills[0].heights
	for _, h := range hills {
		heights = pick(heights, h.heights)
	}
	if !impl.TilingOk(r, tiling) || !slices.Equal(toldHeights(r, tiling), heights) {
		t.Fatal(impl.RegionText(r), impl.LaidText(r, tiling), heights)
	}
}

func TestP87TheLowestTilingIsBelowAll(t *testing.T) {
	for _, r := range simpleRegions() {
		low, ok := impl.Lowest(r)
		checkExtreme(t, r, low, ok, lesserOf)
		for _, laid := range someTilings(r, 12) {
			if !impl.Below(r, low, laid) {
				t.Fatal(impl.RegionText(r), low, laid)
			}
		}
	}
	for _, r := range append(badRegions(), twistedRegions(t)...) {
		if low, ok := impl.Lowest(r); ok || len(low) != 0 {
			t.Error(r, low)
		}
	}
}

func TestP88TheHighestTilingIsAboveAll(t *testing.T) {
	for _, r := range simpleRegions() {
		high, ok := impl.Highest(r)
		checkExtreme(t, r, high, ok, greaterOf)
		for _, laid := range someTilings(r, 12) {
			if !impl.Below(r, laid, high) {
				t.Fatal(impl.RegionText(r), laid, high)
			}
		}
		if low, _ := impl.Lowest(r); ok && slices.Equal(low, high) != (impl.TilingsMany(r) == 1) {
			t.Fatal(impl.RegionText(r), low, high)
		}
	}
	for _, r := range append(badRegions(), twistedRegions(t)...) {
		if high, ok := impl.Highest(r); ok || len(high) != 0 {
			t.Error(r, high)
		}
	}
}

func TestP87P88EndsOfTexts(t *testing.T) {
	for text, want := range map[string][3]string{
		"#":              {"", "", ""},
		"###":            {"", "", ""},
		".#./###":        {"", "", ""},
		".#../####/..#.": {"", "", ""},
		"##":             {"ew", "ew", "0"},
		"##./.##":        {"ew./.ew", "ew./.ew", "0"},
		"##/##":          {"ew/ew", "ss/nn", "1"},
		".##/.##":        {".ss/.nn", ".ew/.ew", "1"},
		"../##/##":       {"../ew/ew", "../ss/nn", "1"},
		"##/##/..":       {"ss/nn/..", "ew/ew/..", "1"},
		"###/###":        {"ews/ewn", "sew/new", "2"},
		"####/####":      {"ewew/ewew", "sews/newn", "3"},
		"##/##/##/##":    {"ew/ss/nn/ew", "ss/nn/ss/nn", "3"},
	} {
		r := region(t, text)
		low, found := impl.Lowest(r)
		high, told := impl.Highest(r)
		if impl.LaidText(r, low) != want[0] || impl.LaidText(r, high) != want[1] || found != (want[0] != "") || told != found {
			t.Error(text, impl.LaidText(r, low), impl.LaidText(r, high))
		}
		if apart := impl.Apart(r, low, high); found && string(rune('0'+apart)) != want[2] || !found && apart != -1 {
			t.Error(text, apart)
		}
	}
}

func TestP89OrderIsNoCircle(t *testing.T) {
	eachPair(4, func(r impl.Region, a hill, b hill) {
		below := impl.Below(r, a.laid, b.laid)
		if below != underneath(a.heights, b.heights) {
			t.Fatal(impl.RegionText(r), a, b, below)
		}
		if below && impl.Below(r, b.laid, a.laid) != slices.Equal(a.laid, b.laid) {
			t.Fatal("a circle", impl.RegionText(r), a, b)
		}
		if low, _ := impl.TilingLow(r, a.laid, b.laid); below != slices.Equal(low, a.laid) {
			t.Fatal("the low one", impl.RegionText(r), a, b, low)
		}
	})
	for _, p := range wrongTilingPairs(t) {
		if impl.Below(p.r, p.a, p.b) {
			t.Fatal(p)
		}
	}
}
