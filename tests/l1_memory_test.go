package tests

import (
	"slices"
	"strings"
	"testing"

	"loop.example/dominotilings/impl"
)

// regionMakers are all functions of the chapter that return regions made of regions.
func regionMakers() map[string]func(a impl.Region, b impl.Region) impl.Region {
	return map[string]func(a impl.Region, b impl.Region) impl.Region{
		"RegionBox": func(a impl.Region, b impl.Region) impl.Region { return impl.RegionBox(a.Wide, a.Tall) },
		"RegionSet off": func(a impl.Region, b impl.Region) impl.Region {
			r, _ := impl.RegionSet(a, 0, false)
			return r
		},
		"RegionSet on": func(a impl.Region, b impl.Region) impl.Region {
			r, _ := impl.RegionSet(a, 0, true)
			return r
		},
		"RegionTurn": func(a impl.Region, b impl.Region) impl.Region { return impl.RegionTurn(a) },
		"RegionFlip": func(a impl.Region, b impl.Region) impl.Region { return impl.RegionFlip(a) },
		"RegionJoin": func(a impl.Region, b impl.Region) impl.Region {
			r, _ := impl.RegionJoin(a, b)
			return r
		},
		"RegionMeet": func(a impl.Region, b impl.Region) impl.Region {
			r, _ := impl.RegionMeet(a, b)
			return r
		},
		"ReadRegion": func(a impl.Region, b impl.Region) impl.Region {
			r, _ := impl.ReadRegion(impl.RegionText(a))
			return r
		},
	}
}

// askRegion calls all functions of the chapter that return no region.
func askRegion(r impl.Region) {
	impl.RegionValid(r)
	impl.RegionAt(r, 0, 0)
	impl.CellsMany(r)
	impl.DarkMany(r)
	impl.Balanced(r)
	impl.PartsOf(r)
	impl.PartsMany(r)
	impl.HolesMany(r)
	impl.Border(r)
	impl.RegionText(r)
}

// roomy returns the region with spare capacity behind its cells.
func roomy(r impl.Region) impl.Region {
	cells := append(make([]bool, 0, len(r.Cells)+8), r.Cells...)
	return impl.Region{Wide: r.Wide, Tall: r.Tall, Cells: cells}
}

// whole returns a copy of the cells and of the spare capacity behind them.
func whole(r impl.Region) []bool {
	return slices.Clone(r.Cells[:cap(r.Cells)])
}

// invert writes into all memory that a region has.
func invert(r impl.Region) {
	all := r.Cells[:cap(r.Cells)]
	for i := range all {
		all[i] = !all[i]
	}
}

// memoryPairs returns pairs of regions for which each function has a result, and some for which it has none.
func memoryPairs() [][2]impl.Region {
	list := [][2]impl.Region{
		{filled(6, 6, 24), filled(6, 6, 0)},
		{filled(3, 2, 6), filled(3, 2, 6)},
		{filled(3, 3, 0), filled(3, 3, 0)},
		{filled(1, 1, 1), filled(1, 1, 0)},
		{filled(2, 2, 3), filled(2, 3, 2)},
	}
	for _, r := range badRegions() {
		list = append(list, [2]impl.Region{r, r}, [2]impl.Region{r, filled(2, 2, 3)})
	}
	return list
}

func TestRegionsAreNotWrittenTo(t *testing.T) {
	for name, maker := range regionMakers() {
		for _, p := range memoryPairs() {
			a, b := roomy(p[0]), roomy(p[1])
			beforeA, beforeB := whole(a), whole(b)
			maker(a, b)
			if !slices.Equal(whole(a), beforeA) || !slices.Equal(whole(b), beforeB) {
				t.Fatal(name, "writes into", p)
			}
		}
	}
	for _, p := range memoryPairs() {
		a := roomy(p[0])
		before := whole(a)
		askRegion(a)
		if !slices.Equal(whole(a), before) {
			t.Fatal("a question writes into", p[0])
		}
	}
}

// checkRegionsUnshared writes into one result and into the arguments: another result stays as it is.
func checkRegionsUnshared(t *testing.T, name string, maker func(a impl.Region, b impl.Region) impl.Region, p [2]impl.Region) {
	t.Helper()
	a, b := roomy(p[0]), roomy(p[1])
	beforeA, beforeB := whole(a), whole(b)
	first, second := maker(a, b), maker(a, b)
	kept := slices.Clone(first.Cells)
	if !sameRegion(first, second) {
		t.Fatal(name, "remembers", p)
	}
	invert(second)
	if !slices.Equal(first.Cells, kept) || !slices.Equal(whole(a), beforeA) || !slices.Equal(whole(b), beforeB) {
		t.Fatal(name, "shares memory of", p)
	}
	invert(a)
	invert(b)
	if !slices.Equal(first.Cells, kept) {
		t.Fatal(name, "keeps memory of", p)
	}
}

func TestResultsShareNoMemory(t *testing.T) {
	for name, maker := range regionMakers() {
		for _, p := range memoryPairs() {
			checkRegionsUnshared(t, name, maker, p)
		}
	}
}

func TestPartsShareNoMemory(t *testing.T) {
	r := filled(4, 4, 10)
	first, second := impl.PartsOf(r), impl.PartsOf(r)
	kept := slices.Clone(first)
	for i := range second[:cap(second)] {
		second[:cap(second)][i] = 77
	}
	if !slices.Equal(first, kept) || !slices.Equal(impl.PartsOf(r), kept) {
		t.Error("two results share memory")
	}
}

func TestNothingPanics(t *testing.T) {
	odd := append(badRegions(), filled(6, 6, 24), filled(1, 1, 0))
	for _, a := range odd {
		askRegion(a)
		for _, b := range odd {
			impl.RegionJoin(a, b)
			impl.RegionMeet(a, b)
		}
		for _, far := range append(farNumbers(), 0, 1, 5, 6, 24, 35) {
			impl.RegionAt(a, far, 0)
			impl.RegionAt(a, 0, far)
			impl.RegionAt(a, far, far)
			impl.RegionSet(a, far, true)
			impl.RegionSet(a, far, false)
			impl.RegionBox(far, a.Wide)
			impl.RegionBox(a.Tall, far)
		}
		impl.RegionTurn(a)
		impl.RegionFlip(a)
	}
	for _, text := range []string{strings.Repeat("#", 1<<16), strings.Repeat("/", 1<<16), strings.Repeat("#/", 1<<16)} {
		impl.ReadRegion(text)
	}
}
