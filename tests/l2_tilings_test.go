package tests

import (
	"math/rand"
	"slices"
	"testing"

	"loop.example/dominotilings/impl"
)

func TestP2TilingsHaveHalfAsManyDominoes(t *testing.T) {
	for _, f := range tiledFields() {
		if !impl.TilingOk(f.r, f.laid) || !impl.Balanced(f.r) || 2*impl.LaidMany(f.r, f.laid) != countCells(f.r) {
			t.Fatal(f)
		}
	}
	for _, f := range laidFields() {
		full := impl.TilingOk(f.r, f.laid)
		listed := slices.ContainsFunc(impl.TilingsAll(f.r), func(laid []int) bool { return slices.Equal(laid, f.laid) })
		if full != isFull(f.r, f.laid) || full != listed {
			t.Fatal(f, full)
		}
	}
	for _, f := range wrongFields() {
		if impl.TilingOk(f.r, f.laid) {
			t.Error(f)
		}
	}
}

func TestP3FlatDominoesButForAnEvenNumber(t *testing.T) {
	for _, r := range validRegions() {
		tilings := impl.TilingsAll(r)
		for _, laid := range tilings {
			flat := impl.FlatMany(r, laid)
			if (flat-impl.FlatMany(r, tilings[0]))%2 != 0 {
				t.Fatal(r, laid)
			}
			if impl.FlatMany(impl.RegionTurn(r), impl.TilingTurn(r, laid)) != impl.LaidMany(r, laid)-flat {
				t.Fatal(r, laid)
			}
		}
	}
}

func TestP4TheFirstCompletionIsFirst(t *testing.T) {
	for _, r := range smallRegions() {
		if len(r.Cells) > 9 && countCells(r) < len(r.Cells)-2 {
			continue
		}
		lists := allLaid(r)
		tilings := tilingsOf(r, lists)
		for _, laid := range lists {
			checkComplete(t, r, laid, tilings)
		}
	}
	dice := rand.New(rand.NewSource(3))
	for _, r := range largeRegions() {
		tilings := impl.TilingsAll(r)
		for range 4 {
			checkComplete(t, r, someLaid(r, dice), tilings)
		}
	}
	for _, f := range wrongFields() {
		if full, ok := impl.Complete(f.r, f.laid); ok || len(full) != 0 {
			t.Error(f, full)
		}
	}
}

// checkComplete looks for the first of the tilings, in their order, that has all dominoes.
func checkComplete(t *testing.T, r impl.Region, laid []int, tilings [][]int) {
	t.Helper()
	full, ok := impl.Complete(r, laid)
	first := slices.IndexFunc(tilings, func(tiling []int) bool { return hasAll(tiling, laid) })
	if first < 0 {
		if ok || len(full) != 0 {
			t.Fatal("there is none", r, laid, full)
		}
		return
	}
	if !ok || !slices.Equal(full, tilings[first]) || !impl.TilingOk(r, full) || !hasAll(full, laid) {
		t.Fatal(r, laid, full, tilings[first])
	}
}

func TestP4CompletionsOfLists(t *testing.T) {
	for _, c := range []struct {
		before string
		after  string
	}{
		{"...", "..."},
		{"##/##", "ew/ew"},
		{"s#/n#", "ss/nn"},
		{"###/###", "ews/ewn"},
		{"#s#/#n#", "sss/nnn"},
		{"###/#ew", "sew/new"},
		{"####/####/####", "ewew/ewew/ewew"},
		{"####/#ew#/####", "sews/newn/ewew"},
		{"####/##s#/##n#", "ewew/ewss/ewnn"},
		{"sew/new", "sew/new"},
		{"ew#", ""},
		{"#", ""},
		{"#ew#", ""},
		{"####/#ss#/#nn#/####", "ewew/ssss/nnnn/ewew"},
		{"####/##ew/####", "ewew/ewew/ewew"},
		{"####/sew#/n###", "ewew/sews/newn"},
		{"###/sew/n.#", ""},
		{"#..#", ""},
		// The cells in the corners have one neighbour.
		{"#./##/.#", "s./ns/.n"},
		{"#./ew/.#", ""},
		{"####/#..#", "sews/n..n"},
		{"ew##/#..#", ""},
	} {
		r, laid, ok := impl.ReadLaid(c.before)
		if !ok {
			t.Fatal(c.before)
		}
		full, ok := impl.Complete(r, laid)
		if ok != (c.after != "") || impl.LaidText(r, full) != c.after {
			t.Errorf("%q: %q", c.before, impl.LaidText(r, full))
		}
	}
}

// faultsOf looks at every pair of places across the line.
func faultsOf(r impl.Region, laid []int) []int {
	var faults []int
	all := dominoesOf(r, laid)
	for column := 1; column < r.Wide; column++ {
		across := false
		for y := range r.Tall {
			across = across || all[domino{{column - 1, y}, {column, y}}]
		}
		if !across {
			faults = append(faults, column)
		}
	}
	return faults
}

// westOf returns the cells in the west of a column, in the same field.
func westOf(r impl.Region, column int) impl.Region {
	west := filled(r.Wide, r.Tall, 0)
	for cell, has := range r.Cells {
		west.Cells[cell] = has && cell%r.Wide < column
	}
	return west
}

func TestP5FaultsDivideBalancedParts(t *testing.T) {
	divided := 0
	for _, f := range tiledFields() {
		for _, column := range impl.FaultsOf(f.r, f.laid) {
			west := westOf(f.r, column)
			if countCells(west)%2 != 0 || 2*countDark(west) != countCells(west) || (countCells(f.r)-countCells(west))%2 != 0 {
				t.Fatal(f, column)
			}
			divided++
		}
	}
	if divided == 0 {
		t.Error("no tiling has a fault")
	}
	for _, f := range laidFields() {
		if faults := impl.FaultsOf(f.r, f.laid); !slices.Equal(faults, faultsOf(f.r, f.laid)) {
			t.Fatal(f, faults)
		}
	}
	for _, f := range wrongFields() {
		if faults := impl.FaultsOf(f.r, f.laid); len(faults) != 0 {
			t.Error(f, faults)
		}
	}
}

func TestP5FaultsOfLists(t *testing.T) {
	for text, want := range map[string][]int{
		".":             nil,
		"#":             nil,
		"s/n":           nil,
		"ew":            nil,
		"#.":            {1},
		"......":        {1, 2, 3, 4, 5},
		"sss/nnn":       {1, 2},
		"ewew/ewew":     {2},
		"ews/ewn":       {2},
		"sew/new":       {1},
		"##ew/####":     {1, 2},
		"ew..ew/.ew.ew": {3, 4},
		"ewew/#ew#":     nil,
		"sews/newn":     {1, 3},
	} {
		r, laid, ok := impl.ReadLaid(text)
		if faults := impl.FaultsOf(r, laid); !ok || !slices.Equal(faults, want) {
			t.Error(text, faults)
		}
	}
}

func TestP67TheFirstTilingIsTheFirstOfAll(t *testing.T) {
	for _, r := range validRegions() {
		first, ok := impl.TilingFirst(r)
		all := impl.TilingsAll(r)
		if ok != (len(all) > 0) || !ok && len(first) != 0 || ok && !slices.Equal(first, all[0]) {
			t.Fatal(r, first, ok)
		}
	}
	for _, r := range badRegions() {
		if first, ok := impl.TilingFirst(r); ok || len(first) != 0 {
			t.Error(r, first)
		}
	}
}

func TestP67FirstTilings(t *testing.T) {
	for text, want := range map[string]string{
		".":              ".",
		"..../....":      "..../....",
		"#":              "",
		"##":             "ew",
		"#/#":            "s/n",
		"###":            "",
		"#..#":           "",
		"#./.#":          "",
		"##./.##":        "ew./.ew",
		"#./##/.#":       "s./ns/.n",
		"###/#.#":        "",
		"####/.##.":      "ewew/.ew.",
		"#..#/####":      "s..s/newn",
		"###/#.#/###":    "sew/n.s/ewn",
		"##../####":      "ew../ewew",
		"###/###/.#.":    "",
		".##./####/.##.": ".ew./ewew/.ew.",
		"##.##":          "ew.ew",
		"###./.###":      "",
	} {
		r := region(t, text)
		first, ok := impl.TilingFirst(r)
		if ok != (want != "") || impl.LaidText(r, first) != want {
			t.Errorf("%q: %q", text, impl.LaidText(r, first))
		}
	}
}

func TestP67BalancedRegionsWithoutTilings(t *testing.T) {
	for _, text := range []string{"#..#", "#../..#/...", "###/.#./.#./###", ".#../####/..#.", "..#./####/.#..", "#..#/####/#..#"} {
		r := region(t, text)
		first, ok := impl.TilingFirst(r)
		full, completed := impl.Complete(r, impl.LaidBare(r))
		if !impl.Balanced(r) || ok || completed || len(first) != 0 || len(full) != 0 || len(impl.TilingsAll(r)) != 0 {
			t.Error(text, first)
		}
	}
}

func TestP67OddRegionsHaveNoTilings(t *testing.T) {
	for _, r := range validRegions() {
		first, ok := impl.TilingFirst(r)
		if countCells(r)%2 != 0 && (ok || len(first) != 0 || len(impl.TilingsAll(r)) != 0) {
			t.Fatal(r, first)
		}
	}
}

func TestP68TilingsAreInOrder(t *testing.T) {
	for _, r := range smallRegions() {
		want := tilingsOf(r, allLaid(r))
		if all := impl.TilingsAll(r); !slices.EqualFunc(all, want, slices.Equal[[]int]) {
			t.Fatal(r, all, want)
		}
	}
	for _, r := range validRegions() {
		all := impl.TilingsAll(r)
		for i, laid := range all {
			if !impl.TilingOk(r, laid) || i > 0 && slices.Compare(all[i-1], laid) >= 0 {
				t.Fatal(r, i, laid)
			}
		}
		if len(impl.TilingsAll(impl.RegionTurn(r))) != len(all) || len(impl.TilingsAll(impl.RegionFlip(r))) != len(all) {
			t.Fatal(r, len(all))
		}
	}
	for _, r := range badRegions() {
		if all := impl.TilingsAll(r); len(all) != 0 {
			t.Error(r, all)
		}
	}
}

func TestP68BoxesHaveManyTilings(t *testing.T) {
	for _, c := range []struct {
		wide int
		tall int
		many int
	}{
		{1, 1, 0}, {1, 2, 1}, {1, 5, 0}, {1, 6, 1}, {2, 2, 2}, {2, 3, 3}, {2, 4, 5}, {2, 5, 8}, {2, 6, 13},
		{3, 3, 0}, {3, 4, 11}, {3, 5, 0}, {3, 6, 41}, {4, 4, 36}, {4, 5, 95}, {4, 6, 281},
	} {
		if all := impl.TilingsAll(impl.RegionBox(c.wide, c.tall)); len(all) != c.many {
			t.Error(c, len(all))
		}
		if all := impl.TilingsAll(impl.RegionBox(c.tall, c.wide)); len(all) != c.many {
			t.Error(c, len(all))
		}
	}
	for wide := 1; wide <= impl.MaxSide; wide++ {
		bare := filled(wide, 2, 0)
		if all := impl.TilingsAll(bare); len(all) != 1 || !slices.Equal(all[0], make([]int, 2*wide)) {
			t.Error("a region without cells has the tiling without dominoes", all)
		}
	}
}

func TestP68OrderOfTilings(t *testing.T) {
	for text, want := range map[string][]string{
		"##/##":       {"ew/ew", "ss/nn"},
		"###/###":     {"ews/ewn", "sew/new", "sss/nnn"},
		"###/#.#/###": {"sew/n.s/ewn", "ews/s.n/new"},
		"#..#":        nil,
		"..":          {".."},
	} {
		r := region(t, text)
		var texts []string
		for _, laid := range impl.TilingsAll(r) {
			texts = append(texts, impl.LaidText(r, laid))
		}
		if !slices.Equal(texts, want) {
			t.Error(text, texts)
		}
	}
}
