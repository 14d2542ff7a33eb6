package tests

import (
	"slices"
	"testing"

	"loop.example/dominotilings/impl"
)

func TestP6TwoWaysToCountTellTheSame(t *testing.T) {
	for _, r := range validRegions() {
		many := len(impl.TilingsAll(r))
		if impl.TilingsMany(r) != many || impl.PartsProduct(r) != many {
			t.Fatal(r, many, impl.TilingsMany(r), impl.PartsProduct(r))
		}
		for cell, has := range r.Cells {
			sum := 0
			for _, way := range allWays() {
				sum += impl.TilingsWith(r, cell, way)
			}
			if has && sum != many || !has && sum != 0 {
				t.Fatal(r, cell, sum)
			}
		}
	}
	for _, r := range badRegions() {
		if impl.TilingsMany(r) != -1 || impl.PartsProduct(r) != -1 {
			t.Error(r)
		}
	}
}

func TestP6CountsOfRegions(t *testing.T) {
	for text, want := range map[string]int{
		".":                   1,
		"......":              1,
		"../../..":            1,
		"#":                   0,
		"##":                  1,
		"#####":               0,
		"######":              1,
		"#.#":                 0,
		"##.##.":              1,
		"#/#/#/#/#/#":         1,
		"#/#/#/#/#":           0,
		"#/./#":               0,
		"#../..#/...":         0,
		"#./.#":               0,
		"###/#.#/###":         2,
		"####/#..#/####":      2,
		"####/#.##/####":      0,
		"####/#..#/#..#/####": 2,
		"######/#....#/#....#/####.#/.....#/######": 1,
		"##.##/##.##":                               4,
		"###.##/###.##":                             6,
		"##.##/##.##/...../##.##/##.##":             16,
		"######/######/######/######":               281,
		"#####/#####/#####/#####":                   95,
		"#####/#####/##.##/#####/#####":             196,
		"#####/##.##/#####/#####/#####":             0,
		".##./####/####/.##.":                       8,
		"..##../.####./######/######/.####./..##..": 64,
	} {
		r := region(t, text)
		if many := impl.TilingsMany(r); many != want || impl.PartsProduct(r) != want {
			t.Error(text, many, impl.PartsProduct(r))
		}
	}
}

func TestP6CountsOfBoxes(t *testing.T) {
	counts := [][]int{
		{0, 1, 0, 1, 0, 1},
		{1, 2, 3, 5, 8, 13},
		{0, 3, 0, 11, 0, 41},
		{1, 5, 11, 36, 95, 281},
		{0, 8, 0, 95, -1, -1},
		{1, 13, 41, 281, -1, -1},
	}
	for i, row := range counts {
		for j, want := range row {
			if many := impl.TilingsMany(impl.RegionBox(j+1, i+1)); many != want {
				t.Error(j+1, i+1, many)
			}
		}
	}
}

// rowsAcross returns the set of the rows with a domino across the line in the west of a column.
func rowsAcross(r impl.Region, laid []int, column int) int {
	set := 0
	all := dominoesOf(r, laid)
	for y := range r.Tall {
		if all[domino{{column - 1, y}, {column, y}}] {
			set += 1 << y
		}
	}
	return set
}

func TestP7AcrossALineLieAsManyDominoes(t *testing.T) {
	for _, r := range validRegions() {
		tilings := impl.TilingsAll(r)
		for column := 1; column < r.Wide; column++ {
			counts := map[int]int{}
			for _, laid := range tilings {
				counts[rowsAcross(r, laid, column)]++
			}
			for set := range 1 << r.Tall {
				if many := impl.AcrossMany(r, column, set); many != counts[set] {
					t.Fatal(r, column, set, many, counts[set])
				} else if many > 0 {
					checkBalance(t, r, column, set)
				}
			}
		}
	}
}

// checkBalance holds the cells in the west of the line against the dominoes that lie across it.
func checkBalance(t *testing.T, r impl.Region, column int, set int) {
	t.Helper()
	west := westOf(r, column)
	lean := 2*countDark(west) - countCells(west)
	for y := range r.Tall {
		if set>>y&1 == 0 {
			continue
		}
		if (column-1+y)%2 == 0 {
			lean--
		} else {
			lean++
		}
	}
	if lean != 0 {
		t.Fatal(r, column, set, lean)
	}
}

func TestP7LinesOfRegions(t *testing.T) {
	for _, c := range []struct {
		text   string
		column int
		counts []int
	}{
		{"##", 1, []int{0, 1}},
		{"####", 1, []int{0, 1}},
		{"####", 2, []int{1, 0}},
		{"####", 3, []int{0, 1}},
		{"......", 1, []int{1, 0}},
		{"......", 5, []int{1, 0}},
		{"#.#", 1, []int{0, 0}},
		{"##.##", 2, []int{1, 0}},
		{"##/##", 1, []int{1, 0, 0, 1}},
		{"###/###", 1, []int{2, 0, 0, 1}},
		{"###/###", 2, []int{2, 0, 0, 1}},
		{"##.##/##.##", 2, []int{4, 0, 0, 0}},
		{"##.##/##.##", 3, []int{4, 0, 0, 0}},
		{"###/#.#/###", 1, []int{0, 1, 0, 0, 1, 0, 0, 0}},
		{"###/#.#/###", 2, []int{0, 1, 0, 0, 1, 0, 0, 0}},
		{"##./.##", 1, []int{0, 0, 1, 0}},
		{"##/##/##/##/##/##", 1, []int{0: 1, 3: 1, 9: 1, 12: 1, 15: 1, 33: 1, 36: 1, 39: 1, 48: 1, 51: 1, 57: 1, 60: 1, 63: 1}},
	} {
		r := region(t, c.text)
		for set := range 1 << r.Tall {
			want := 0
			if set < len(c.counts) {
				want = c.counts[set]
			}
			if many := impl.AcrossMany(r, c.column, set); many != want {
				t.Error(c.text, c.column, set, many)
			}
		}
	}
}

func TestP7OtherLinesAndSets(t *testing.T) {
	for _, r := range largeRegions() {
		for _, column := range append(farNumbers(), 0, r.Wide, r.Wide+1) {
			for _, set := range []int{0, 1, 1<<r.Tall - 1} {
				if many := impl.AcrossMany(r, column, set); many != -1 {
					t.Fatal(r, column, set, many)
				}
			}
		}
		for column := 1; column < r.Wide; column++ {
			for _, set := range []int{-1, -2, 1 << r.Tall, 1<<r.Tall + 1, 64, 1 << 32, 1 << 62, -1 << 63, 1<<63 - 1} {
				if many := impl.AcrossMany(r, column, set); many != -1 {
					t.Fatal(r, column, set, many)
				}
			}
			if impl.AcrossMany(r, column, 0) < 0 || impl.AcrossMany(r, column, 1<<r.Tall-1) < 0 {
				t.Fatal(r, column)
			}
		}
	}
	for _, r := range badRegions() {
		for column := range 8 {
			for set := range 3 {
				if many := impl.AcrossMany(r, column, set); many != -1 {
					t.Error(r, column, set, many)
				}
			}
		}
	}
}

func TestP8AtEveryLineAllTilingsAreCounted(t *testing.T) {
	for _, r := range validRegions() {
		many := len(impl.TilingsAll(r))
		for column := 1; column < r.Wide; column++ {
			if sum := impl.AcrossSum(r, column); sum != many {
				t.Fatal(r, column, sum, many)
			}
		}
		for _, column := range append(farNumbers(), 0, r.Wide, r.Wide+1) {
			if sum := impl.AcrossSum(r, column); sum != -1 {
				t.Fatal(r, column, sum)
			}
		}
	}
	for _, r := range badRegions() {
		for column := range 8 {
			if sum := impl.AcrossSum(r, column); sum != -1 {
				t.Error(r, column, sum)
			}
		}
	}
}

// without returns the region without two places.
func without(r impl.Region, p place, q place) impl.Region {
	rest := filled(r.Wide, r.Tall, 0)
	copy(rest.Cells, r.Cells)
	rest.Cells[indexOf(r, p)], rest.Cells[indexOf(r, q)] = false, false
	return rest
}

func TestP73ADominoHasTwoEnds(t *testing.T) {
	for _, r := range validRegions() {
		counts := map[domino]int{}
		for _, laid := range impl.TilingsAll(r) {
			for d := range dominoesOf(r, laid) {
				counts[d]++
			}
		}
		for cell := range r.Cells {
			for _, way := range allWays() {
				checkWith(t, r, cell, way, counts)
			}
		}
	}
}

func checkWith(t *testing.T, r impl.Region, cell int, way int, counts map[domino]int) {
	t.Helper()
	many := impl.TilingsWith(r, cell, way)
	p := placeOf(r, cell)
	q := aside(p, way)
	if !within(r, p.x, p.y) || !within(r, q.x, q.y) {
		if many != 0 {
			t.Fatal("no such domino", r, cell, way, many)
		}
		return
	}
	// A domino lies in one order of its places alone.
	if many != counts[domino{p, q}]+counts[domino{q, p}] || many != impl.TilingsMany(without(r, p, q)) {
		t.Fatal(r, cell, way, many)
	}
	if other := impl.TilingsWith(r, indexOf(r, q), back(way)); other != many {
		t.Fatal(r, cell, way, many, other)
	}
}

func TestP73OtherCellsAndDirections(t *testing.T) {
	for _, r := range largeRegions() {
		for cell := range r.Cells {
			for _, way := range noWays() {
				if many := impl.TilingsWith(r, cell, way); many != 0 {
					t.Fatal(r, cell, way, many)
				}
			}
		}
		for _, cell := range append(farNumbers(), len(r.Cells)) {
			for _, way := range append(noWays(), allWays()...) {
				if many := impl.TilingsWith(r, cell, way); many != 0 {
					t.Fatal(r, cell, way, many)
				}
			}
		}
	}
	for _, r := range badRegions() {
		for _, cell := range append(farNumbers(), 0, 1) {
			for _, way := range append(noWays(), allWays()...) {
				if many := impl.TilingsWith(r, cell, way); many != -1 {
					t.Error(r, cell, way, many)
				}
			}
		}
	}
}

func TestP74WhatIsForcedIsSoInAllTilings(t *testing.T) {
	for _, r := range validRegions() {
		var want []int
		tilings := impl.TilingsAll(r)
		for cell, has := range r.Cells {
			differs := slices.ContainsFunc(tilings, func(laid []int) bool { return laid[cell] != tilings[0][cell] })
			if has && len(tilings) > 0 && !differs {
				want = append(want, cell)
			}
		}
		if forced := impl.ForcedOf(r); !slices.Equal(forced, want) {
			t.Fatal(r, forced, want)
		}
	}
	for _, r := range badRegions() {
		if forced := impl.ForcedOf(r); len(forced) != 0 {
			t.Error(r, forced)
		}
	}
}

func TestP74ForcedCells(t *testing.T) {
	for text, want := range map[string][]int{
		".":                       nil,
		"..../....":               nil,
		"#":                       nil,
		"#..#":                    nil,
		"###":                     nil,
		"##":                      {0, 1},
		"#/#":                     {0, 1},
		"##/##":                   nil,
		"####":                    {0, 1, 2, 3},
		"##./.##":                 {1, 2, 3, 4},
		"###/#.#/###":             nil,
		"##../####":               {2, 3},
		"#..#/####":               {0, 1, 2, 3, 4, 7},
		"##.##/##...":             {8, 9},
		"####/#..#/####":          nil,
		"#####/#...#/#####/.#.#.": nil,
		".####/.#..#/.####/##...": {0, 1},
	} {
		r := region(t, text)
		if forced := impl.ForcedOf(r); !slices.Equal(forced, want) {
			t.Error(text, forced)
		}
	}
}

func TestP75PartsAreRegionsOfOnePart(t *testing.T) {
	for _, r := range validRegions() {
		marks := leastMarks(r, false)
		all := filled(r.Wide, r.Tall, 0)
		for part := range r.Cells {
			one, ok := impl.PartRegion(r, part)
			if ok != slices.Contains(marks, part) || !ok && !nothing(one) {
				t.Fatal(r, part, one, ok)
			}
			for cell, has := range one.Cells {
				if has != (marks[cell] == part) {
					t.Fatal(r, part, one)
				}
				all.Cells[cell] = all.Cells[cell] || has
			}
			if ok && (one.Wide != r.Wide || one.Tall != r.Tall || !impl.RegionValid(one) || impl.PartsMany(one) != 1) {
				t.Fatal(r, part, one)
			}
		}
		if !sameRegion(all, r) {
			t.Fatal(r, all)
		}
	}
}

func TestP75OtherParts(t *testing.T) {
	for _, r := range largeRegions() {
		for _, part := range append(farNumbers(), -2, len(r.Cells)) {
			if one, ok := impl.PartRegion(r, part); ok || !nothing(one) {
				t.Fatal(r, part, one)
			}
		}
	}
	for _, r := range badRegions() {
		for _, part := range append(farNumbers(), 0, 1, 2) {
			if one, ok := impl.PartRegion(r, part); ok || !nothing(one) {
				t.Error(r, part, one)
			}
		}
	}
	two := region(t, "##.##/##.##")
	for part, want := range map[int]string{0: "##.../##...", 3: "...##/...##", 1: "", 2: "", 4: "", 5: "", 9: ""} {
		if one, ok := impl.PartRegion(two, part); ok != (want != "") || impl.RegionText(one) != want {
			t.Error(part, one, ok)
		}
	}
}

func TestP76PartsDoNotKnowOfEachOther(t *testing.T) {
	for _, r := range validRegions() {
		product := 1
		for part := range r.Cells {
			if one, ok := impl.PartRegion(r, part); ok {
				product *= impl.TilingsMany(one)
			}
		}
		if many := impl.PartsProduct(r); many != product || many != impl.TilingsMany(r) {
			t.Fatal(r, many, product)
		}
		if countCells(r) == 0 && impl.PartsProduct(r) != 1 {
			t.Fatal("a region without cells has the tiling without dominoes", r)
		}
	}
	for _, r := range badRegions() {
		if many := impl.PartsProduct(r); many != -1 {
			t.Error(r, many)
		}
	}
}
