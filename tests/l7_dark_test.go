package tests

import (
	"math/rand"
	"slices"
	"testing"

	"loop.example/dominotilings/impl"
)

func TestP103DarkCellsAreHalfOfTheStory(t *testing.T) {
	for _, r := range obstructed(t) {
		dark := impl.DarkCells(r)
		if !slices.Equal(dark, indicesOf(r, coloured(r, true))) || len(dark) != impl.DarkMany(r) {
			t.Fatal(impl.RegionText(r), dark)
		}
		for i, cell := range dark {
			for _, other := range dark[:i] {
				if other >= cell || sideBySide(placeOf(r, cell), placeOf(r, other)) {
					t.Fatal(impl.RegionText(r), dark)
				}
			}
		}
	}
	for _, r := range badRegions() {
		if dark := impl.DarkCells(r); len(dark) != 0 {
			t.Error(r, dark)
		}
	}
}

func TestP103DarkCellsOfTexts(t *testing.T) {
	for text, want := range map[string][]int{
		".":                    nil,
		"#":                    {0},
		".#":                   nil,
		"##":                   {0},
		"#/#":                  {0},
		"###/###":              {0, 2, 4},
		"##/##":                {0, 3},
		"####/####":            {0, 2, 5, 7},
		".#./#.#/.#.":          nil,
		"#.#/.#./#.#":          {0, 2, 4, 6, 8},
		"######/....../....##": {4, 12, 14, 16},
	} {
		if dark := impl.DarkCells(region(t, text)); !slices.Equal(dark, want) {
			t.Error(text, dark)
		}
	}
}

// cellLists returns lists of cells of a field, of none, of all, given twice and in any order, some with cells that are not there.
func cellLists(r impl.Region, dice *rand.Rand) [][]int {
	all := make([]int, len(r.Cells))
	for cell := range all {
		all[cell] = cell
	}
	list := [][]int{nil, {}, all, farNumbers(), append(farNumbers(), all...), {-1, len(all), -r.Wide, len(all) + r.Wide - 1}}
	for range 4 {
		some := make([]int, dice.Intn(len(all)+3))
		for i := range some {
			some[i] = dice.Intn(len(all))
		}
		list = append(list, some, append(slices.Clone(some), some...), append([]int{-1}, some...))
	}
	return list
}

func TestP104MoreCellsHaveMoreNeighbours(t *testing.T) {
	dice := rand.New(rand.NewSource(7))
	for i, r := range obstructed(t) {
		if len(r.Cells) == 12 && i%4 != 0 {
			continue
		}
		for _, cells := range cellLists(r, dice) {
			beside := impl.CellsBeside(r, cells)
			if !slices.Equal(beside, toldBeside(r, cells)) {
				t.Fatal(impl.RegionText(r), cells, beside)
			}
			for _, further := range []int{-1, len(r.Cells), dice.Intn(len(r.Cells))} {
				more := impl.CellsBeside(r, append(slices.Clone(cells), further))
				if slices.ContainsFunc(beside, func(cell int) bool { return !slices.Contains(more, cell) }) {
					t.Fatal(impl.RegionText(r), cells, further, more)
				}
			}
		}
	}
}

func TestP104BesideIsSoBothWays(t *testing.T) {
	for _, r := range obstructed(t) {
		for cell := range r.Cells {
			beside := impl.CellsBeside(r, []int{cell})
			if !slices.Equal(beside, toldBeside(r, []int{cell})) {
				t.Fatal(impl.RegionText(r), cell, beside)
			}
			for _, other := range beside {
				if r.Cells[cell] && !slices.Contains(impl.CellsBeside(r, []int{other}), cell) {
					t.Fatal(impl.RegionText(r), cell, other)
				}
			}
		}
	}
}

func TestP104CellsBesideOfTexts(t *testing.T) {
	for _, c := range []struct {
		text  string
		cells []int
		want  []int
	}{
		{".", []int{0}, nil},
		{"#", []int{0}, nil},
		{"##", nil, nil},
		{"##", []int{0}, []int{1}},
		{"##", []int{1, 0}, []int{0, 1}},
		{"##", []int{0, 0}, []int{1}},
		{".#", []int{0}, []int{1}},
		{".#", []int{1}, nil},
		{"#./.#", []int{0, 1, 2, 3}, []int{1, 2}},
		{"###/###/###", []int{4}, []int{1, 3, 5, 7}},
		{"###/#.#/###", []int{4}, []int{1, 3, 5, 7}},
		{"###/#.#/###", []int{1, 3, 5, 7}, []int{0, 2, 6, 8}},
		{"###/###/###", []int{2}, []int{1, 5}},
		{"###/###/###", []int{3}, []int{0, 4, 6}},
		{"###/###/###", []int{8, 0, 8}, []int{1, 3, 5, 7}},
		{"###/###/###", []int{-1, 9, -3, 10, 11, 12}, nil},
		{"###/###/###", []int{-1, 9, 2}, []int{1, 5}},
		{"##/##", []int{0, 3}, []int{1, 2}},
		{"##/##", []int{0, 1, 2, 3}, []int{0, 1, 2, 3}},
	} {
		if beside := impl.CellsBeside(region(t, c.text), c.cells); !slices.Equal(beside, c.want) {
			t.Error(c.text, c.cells, beside)
		}
	}
	for _, r := range badRegions() {
		for _, cells := range [][]int{nil, {0}, {0, 1, 2, 3, 4, 5, 6}, {-1}, farNumbers()} {
			if beside := impl.CellsBeside(r, cells); len(beside) != 0 {
				t.Error(r, cells, beside)
			}
		}
	}
}

func TestP105TheWorstSetIsOne(t *testing.T) {
	lacking, larger := 0, 0
	for _, r := range obstructed(t) {
		set, lack := impl.LackSet(r), impl.LackMost(r)
		if countDark(r) > 12 {
			if len(set) != 0 || lack != -1 {
				t.Fatal("more than 12 dark cells", impl.RegionText(r), set, lack)
			}
			continue
		}
		if len(set)-len(toldBeside(r, set)) != lack || lack == 0 && len(set) != 0 {
			t.Fatal(impl.RegionText(r), set, lack)
		}
		for i, cell := range set {
			if p := placeOf(r, cell); !slices.Contains(coloured(r, true), p) || i > 0 && set[i-1] >= cell {
				t.Fatal(impl.RegionText(r), set)
			}
		}
		if most, told := toldWorst(r); most != lack || !slices.Equal(told, set) {
			t.Fatal(impl.RegionText(r), set, lack, told, most)
		}
		if lack > 0 {
			lacking++
		}
		if dark := impl.DarkCells(r); lack > 0 && len(set) < len(dark) && len(dark)-len(toldBeside(r, dark)) == lack {
			larger++
		}
	}
	if lacking == 0 || larger == 0 {
		t.Error("nothing lacks, or nowhere are several sets as bad", lacking, larger)
	}
	for _, r := range badRegions() {
		if set := impl.LackSet(r); len(set) != 0 {
			t.Error(r, set)
		}
	}
}

func TestP105WorstSetsOfTexts(t *testing.T) {
	for text, want := range map[string][]int{
		".":              nil,
		"#":              {0},
		".#":             nil,
		"##":             nil,
		"###":            {0, 2},
		".###":           nil,
		"#.#":            {0, 2},
		"#./.#":          nil,
		"#.##":           {0},
		"##.#":           nil,
		"###/...":        nil,
		"#..#":           {0},
		"#.../###./..#.": {2, 5, 8},
		"###./..##":      nil,
		"#.#/.#./#.#":    {0, 2, 4, 6, 8},
		".#./#.#/.#.":    nil,
		"#.#/###":        nil,
		"##.../..###":    {2, 4},
	} {
		if set := impl.LackSet(region(t, text)); !slices.Equal(set, want) {
			t.Error(text, set)
		}
	}
}

func TestP28TheWorstSetTellsTheMostDominoes(t *testing.T) {
	untiled := 0
	for _, r := range obstructed(t) {
		most, lack, dark := impl.LaidMost(r), impl.LackMost(r), countDark(r)
		if most != toldMost(r) {
			t.Fatal(impl.RegionText(r), most)
		}
		if dark > 12 {
			if lack != -1 {
				t.Fatal("more than 12 dark cells", impl.RegionText(r), lack)
			}
			continue
		}
		if most != dark-lack {
			t.Fatal(impl.RegionText(r), most, lack)
		}
		if !impl.Balanced(r) {
			continue
		}
		if many := impl.TilingsMany(r); (many > 0) != (lack == 0) {
			t.Fatal(impl.RegionText(r), many, lack)
		}
		if lack > 0 {
			untiled++
		}
	}
	if untiled == 0 {
		t.Error("each balanced region has a tiling")
	}
	for _, r := range badRegions() {
		if impl.LackMost(r) != -1 || impl.LaidMost(r) != -1 {
			t.Error(r, impl.LackMost(r), impl.LaidMost(r))
		}
	}
}

func TestP28AsManyDominoesCanBeLaid(t *testing.T) {
	for _, r := range smallRegions() {
		if len(r.Cells) > 9 {
			continue
		}
		most := 0
		for _, laid := range allLaid(r) {
			most = max(most, impl.LaidMany(r, laid))
		}
		if impl.LaidMost(r) != most {
			t.Fatal(impl.RegionText(r), impl.LaidMost(r), most)
		}
	}
}

func TestP28NumbersOfTexts(t *testing.T) {
	for _, c := range []struct {
		text string
		lack int
		laid int
	}{
		{".", 0, 0},
		{"#", 1, 0},
		{".#", 0, 0},
		{"##", 0, 1},
		{"###", 1, 1},
		{".###", 0, 1},
		{"#..#", 1, 0},
		{"##../#..#/...#", 0, 2},
		{"#.#/.#./#.#", 5, 0},
		{".#./#.#/.#.", 0, 0},
		{"##./###/..#", 0, 3},
		{"#.../###./..#.", 1, 2},
		{"##..##/.####./##..##", 0, 6},
		{"####/####/####/####/####/####", 0, 12},
		{"#.#.#./.#.#.#/#.#.#./.#.#.#/......", 12, 0},
		{"#.#.#./.#.#.#/#.#.#./.#.#.#/#.....", -1, 0},
		{"#.#.#./.#.#.#/#.#.#./.#.#.#/....../......", 0, 0},
		{"#.#.#./.#.#.#/#.#.#./.#.#.#/....../#.....", 1, 0},
		{"#####/####./#####/#####/#####", -1, 11},
		{"####./#####/#####/#####/#####", 0, 12},
		{".#.#.#/#.#.#./.#.#.#/#.#.#./.#.#.#/#.#.#.", -1, 0},
		{"#.#.#./.#.#.#/#.#.#./.#.#.#/#.#.#./.#.#.#", 0, 0},
	} {
		r := region(t, c.text)
		if lack, laid := impl.LackMost(r), impl.LaidMost(r); lack != c.lack || laid != c.laid {
			t.Error(c.text, lack, laid)
		}
	}
}

func TestP106ACellMoreIsADominoMoreAtMost(t *testing.T) {
	for _, r := range obstructed(t) {
		most := impl.LaidMost(r)
		for cell, has := range r.Cells {
			if !has {
				continue
			}
			p := placeOf(r, cell)
			if fewer := impl.LaidMost(without(r, p, p)); fewer != most && fewer != most-1 {
				t.Fatal(impl.RegionText(r), cell, most, fewer)
			}
		}
		if turned := impl.LaidMost(impl.RegionTurn(r)); turned != most {
			t.Fatal("turned", impl.RegionText(r), most, turned)
		}
		if many := impl.TilingsMany(r); (many > 0) != (2*most == countCells(r)) {
			t.Fatal("tiled", impl.RegionText(r), most, many)
		}
	}
}
