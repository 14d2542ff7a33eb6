package tests

import (
	"slices"
	"testing"

	"loop.example/dominotilings/impl"
)

// toldWay does the first flip that brings its corner nearer to the other heights, again and again.
func toldWay(r impl.Region, a hill, b hill) []int {
	var corners []int
	for laid, found := a.laid, true; found; {
		found = false
		heights := toldHeights(r, laid)
		for _, f := range toldTurns(r, laid) {
			now, then := heights[f.corner]-b.heights[f.corner], toldHeights(r, f.after)[f.corner]-b.heights[f.corner]
			if max(then, -then) < max(now, -now) {
				laid, found = f.after, true
				corners = append(corners, f.corner)
				break
			}
		}
	}
	return corners
}

func TestP20EveryTilingLeadsToEveryOtherOne(t *testing.T) {
	eachPair(4, func(r impl.Region, a hill, b hill) {
		way, ok := impl.FlipWay(r, a.laid, b.laid)
		if !ok || len(way) != impl.Apart(r, a.laid, b.laid) {
			t.Fatal(impl.RegionText(r), a, b, way, ok)
		}
		if after, many := impl.FlipRun(r, a.laid, way); many != len(way) || !slices.Equal(after, b.laid) {
			t.Fatal("not done", impl.RegionText(r), a, b, way, after, many)
		}
		if told := toldWay(r, a, b); !slices.Equal(way, told) {
			t.Fatal("not the first ones", impl.RegionText(r), a, b, way, told)
		}
	})
	for _, p := range append(wrongTilingPairs(t), wrongWays(t)...) {
		if way, ok := impl.FlipWay(p.r, p.a, p.b); ok || len(way) != 0 {
			t.Fatal(p, way)
		}
	}
}

// wrongWays returns pairs of lists of which one at least is no tiling of a simple region, although flips lead from the one to the other.
func wrongWays(t *testing.T) []pair {
	t.Helper()
	var list []pair
	for _, texts := range [][2]string{
		{"ew.ew/ew.ew", "ss.ew/nn.ew"},
		{"sewew/n.sew/ewnew", "sewss/n.snn/ewnew"},
		{"ew#/ew#", "ss#/nn#"},
		{"ew/ew/##", "ss/nn/##"},
		{"...", "..."},
	} {
		r, a, first := impl.ReadLaid(texts[0])
		_, b, second := impl.ReadLaid(texts[1])
		if !first || !second {
			t.Fatal(texts)
		}
		list = append(list, pair{r, a, b}, pair{r, b, a}, pair{r, a, a})
	}
	r, laid, _ := impl.ReadLaid("ew/ew")
	return append(list, oneWrong(r, laid, [][]int{{2, 2, 4, 4, 0}, {2, 2, 4}, {0, 0, 1, 3}, {2, 2, 4, 3}, {-2, -2, -4, -4}})...)
}

// TestP20AsFewAsCanBe holds the ways of regions with few tilings against the least numbers of flips.
func TestP20AsFewAsCanBe(t *testing.T) {
	for i, r := range simpleRegions() {
		tilings := impl.TilingsAll(r)
		if i%2 != 0 || len(tilings) > 40 {
			continue
		}
		for first := range tilings {
			for last, steps := range stepsFrom(tilings, first) {
				if way, ok := impl.FlipWay(r, tilings[first], tilings[last]); !ok || len(way) != steps {
					t.Fatal(impl.RegionText(r), tilings[first], tilings[last], way, steps)
				}
			}
		}
	}
}

func TestP20WaysOfTexts(t *testing.T) {
	for _, c := range []struct {
		from string
		to   string
		want []int
	}{
		{"ew", "ew", nil},
		{"ew/ew", "ew/ew", nil},
		{"ew/ew", "ss/nn", []int{4}},
		{"ss/nn", "ew/ew", []int{4}},
		{"ews/ewn", "sew/new", []int{5, 6}},
		{"sew/new", "ews/ewn", []int{6, 5}},
		{"sss/nnn", "sew/new", []int{6}},
		{"sss/nnn", "ews/ewn", []int{5}},
		{"ewew/ewew", "ssss/nnnn", []int{6, 8}},
		{"sews/newn", "ewew/ewew", []int{7, 6, 8}},
		{"ewss/ewnn", "ssew/nnew", []int{6, 8}},
		{"ewew/ewew/ewew/ewew", "ssss/nnnn/ssss/nnnn", []int{6, 8, 16, 18}},
	} {
		r, a, first := impl.ReadLaid(c.from)
		_, b, second := impl.ReadLaid(c.to)
		if way, ok := impl.FlipWay(r, a, b); !first || !second || !ok || !slices.Equal(way, c.want) {
			t.Error(c.from, c.to, way, ok)
		}
	}
}

// smallEnough returns the regions of which ReachMany and FlipLines tell, all told by their cells.
func smallEnough(t *testing.T) []impl.Region {
	t.Helper()
	list := slices.Concat(validRegions(), simpleRegions(), holedRegions(t), twistedRegions(t))
	return slices.DeleteFunc(list, func(r impl.Region) bool { return countCells(r) > 16 })
}

// tooLarge returns valid regions with more than 16 cells, with and without tilings.
func tooLarge(t *testing.T) []impl.Region {
	t.Helper()
	list := slices.Concat(largeRegions(), simpleRegions(), holedRegions(t), []impl.Region{filled(6, 3, 17), filled(6, 3, 18), filled(6, 6, 17), filled(6, 6, 24)})
	return slices.DeleteFunc(list, func(r impl.Region) bool { return countCells(r) <= 16 })
}

func TestP21InASimpleRegionAllTilingsAreReached(t *testing.T) {
	for _, r := range smallEnough(t) {
		tilings := impl.TilingsAll(r)
		for first, laid := range tilings {
			want := 0
			for _, steps := range stepsFrom(tilings, first) {
				if steps >= 0 {
					want++
				}
			}
			many := impl.ReachMany(r, laid)
			if many != want || many > impl.TilingsMany(r) || isSimple(r) && many != impl.TilingsMany(r) {
				t.Fatal(impl.LaidText(r, laid), many, want)
			}
		}
	}
}

func TestP21OtherListsReachNothing(t *testing.T) {
	for _, r := range tooLarge(t) {
		lists := [][]int{nil, make([]int, len(r.Cells))}
		if laid, ok := impl.TilingFirst(r); ok {
			lists = append(lists, laid)
		}
		for _, laid := range lists {
			if many := impl.ReachMany(r, laid); many != -1 {
				t.Fatal(impl.RegionText(r), laid, many)
			}
		}
	}
	for _, f := range append(laidFields(), wrongFlips()...) {
		if impl.LaidOk(f.r, f.laid) && isFull(f.r, f.laid) {
			continue
		}
		if many := impl.ReachMany(f.r, f.laid); many != -1 {
			t.Fatal(f, many)
		}
	}
}

func TestP21ReachesOfTexts(t *testing.T) {
	for text, want := range map[string]int{
		".":                    1,
		"....../......":        1,
		"#":                    -1,
		"ew##":                 -1,
		"ew":                   1,
		"ew/ew":                2,
		"ew/##":                -1,
		"ss/nn":                2,
		"ews/ewn":              3,
		"ew.ew/ew.ew":          4,
		"ew.ss/ew.nn":          4,
		"ew./.ew":              1,
		"ewew/ewew/ewew/ewew":  36,
		"sews/newn/sews/newn":  36,
		"sew/n.s/ewn":          1,
		"ews/s.n/new":          1,
		"sews/n..n/s..s/newn":  1,
		"sewew/n.sew/ewnew":    4,
		"ewsew/s.nss/newnn":    4,
		"ewewew/ewewew/......": 13,
		"ew..../ew..../......": 2,
		"ewewss/ewewnn/ewewew": -1,
		"ewewss/ewewnn/..ewew": 26,
	} {
		r, laid, ok := impl.ReadLaid(text)
		if many := impl.ReachMany(r, laid); !ok || many != want {
			t.Error(text, ok, many)
		}
	}
}

func TestP95FlipsGoBothWays(t *testing.T) {
	for _, r := range smallEnough(t) {
		tilings := impl.TilingsAll(r)
		want := 0
		for i, laid := range tilings {
			for _, other := range tilings[:i] {
				if differing(laid, other) == 4 {
					want++
				}
			}
		}
		lines := impl.FlipLines(r)
		if lines != want || impl.FlipLines(impl.RegionTurn(r)) != lines {
			t.Fatal(impl.RegionText(r), lines, want)
		}
		if isSimple(r) && lines < len(tilings)-1 {
			t.Fatal("too few", impl.RegionText(r), lines)
		}
	}
	for _, r := range append(badRegions(), tooLarge(t)...) {
		if lines := impl.FlipLines(r); lines != -1 {
			t.Fatal(r, lines)
		}
	}
}

func TestP95LinesOfTexts(t *testing.T) {
	for text, want := range map[string]int{
		".": 0,
		"....../....../....../....../....../......": 0,
		"#":                           0,
		"##":                          0,
		"#####/#####/#####":           0,
		"##/##":                       1,
		"###/###":                     2,
		"####/####":                   5,
		"##.##/##.##":                 4,
		"###/#.#/###":                 0,
		"####/#..#/#..#/####":         0,
		"#####/#.###/#####":           6,
		"######/######/####..":        46,
		"######/######/#####.":        -1,
		"######/######/######":        -1,
		"#####/#####/#####/#....":     21,
		"####/####/####/####":         70,
		"#####/####./####./####.":     -1,
		"######/######/######/######": -1,
	} {
		if lines := impl.FlipLines(region(t, text)); lines != want {
			t.Error(text, lines)
		}
	}
}
