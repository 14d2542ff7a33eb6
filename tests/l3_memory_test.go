package tests

import (
	"slices"
	"testing"

	"loop.example/dominotilings/impl"
)

// countMakers are all functions of the chapter that return lists or a matrix.
func countMakers() map[string]func(f field) [][]int {
	tiling := func(rank int) func(f field) [][]int {
		return func(f field) [][]int {
			laid, _ := impl.TilingOf(f.r, rank)
			return [][]int{laid}
		}
	}
	return map[string]func(f field) [][]int{
		"ForcedOf":             func(f field) [][]int { return [][]int{impl.ForcedOf(f.r)} },
		"SignMatrix":           func(f field) [][]int { return impl.SignMatrix(f.r) },
		"TilingOf":             tiling(0),
		"TilingOf the second":  tiling(1),
		"TilingOf below all":   tiling(-1),
		"TilingOf of no other": tiling(1 << 40),
	}
}

// partMaker is PartRegion for a part of the first region.
func partMaker(part int) func(a impl.Region, b impl.Region) impl.Region {
	return func(a impl.Region, b impl.Region) impl.Region {
		one, _ := impl.PartRegion(a, part)
		return one
	}
}

// countsOf calls all functions of the chapter that return a number for a region and a list.
func countsOf(f field) []int {
	list := []int{
		impl.TilingsMany(f.r), impl.PartsProduct(f.r), impl.TilingsDet(f.r), impl.RankOf(f.r, f.laid),
		impl.TilingsWith(f.r, 0, impl.ToEast), impl.TilingsWith(f.r, 0, impl.ToNorth), impl.TilingsWith(f.r, 1, impl.ToWest),
	}
	for column := range impl.MaxSide {
		list = append(list, impl.AcrossSum(f.r, column), impl.AcrossMany(f.r, column, 0), impl.AcrossMany(f.r, column, 3))
	}
	return list
}

// countFields returns fields for which each function has a result, also of several parts, with a hole and of one row, and some for which it has none.
func countFields(t *testing.T) []field {
	t.Helper()
	var list []field
	for _, text := range []string{"ewew/ewew/ewew", "sew/n.s/ewn", "ew.ew/ew.ew", "ewew", "ew./.ew", "#ew#", "#..#", "s./n."} {
		r, laid, ok := impl.ReadLaid(text)
		if !ok {
			t.Fatal(text)
		}
		list = append(list, field{r, laid})
	}
	return append(list, memoryFields()...)
}

func TestCountsWriteNowhere(t *testing.T) {
	for _, f := range countFields(t) {
		for name, maker := range countMakers() {
			checkNotWritten(t, name, maker, f)
		}
		g := roomyField(f)
		cells, laid := whole(g.r), wholeList(g.laid)
		countsOf(g)
		for part := -1; part <= len(g.r.Cells); part++ {
			impl.PartRegion(g.r, part)
		}
		if !slices.Equal(whole(g.r), cells) || !slices.Equal(wholeList(g.laid), laid) {
			t.Fatal("a count writes into", f)
		}
	}
}

func TestCountsShareNoMemory(t *testing.T) {
	for _, f := range countFields(t) {
		for name, maker := range countMakers() {
			checkUnshared(t, name, maker, f)
		}
		for _, part := range []int{-1, 0, 1, 3} {
			checkRegionsUnshared(t, "PartRegion", partMaker(part), [2]impl.Region{f.r, f.r})
		}
		checkApart(t, f.r, impl.SignMatrix(f.r))
	}
}

// roomyMatrix returns the matrix with spare capacity behind its rows and behind the numbers of each.
func roomyMatrix(m [][]int) [][]int {
	rows := make([][]int, 0, len(m)+2)
	for _, row := range m {
		rows = append(rows, append(make([]int, 0, len(row)+2), row...))
	}
	return rows
}

func TestMatricesAreNotWrittenTo(t *testing.T) {
	list := append(wrongMatrices(), greatestMatrix(), [][]int{{0, 1}, {1, 0}}, [][]int{{0, 1, 1}, {0, 0, 1}, {1, 1, 1}}, square(12))
	// In these matrices one row is the memory of several.
	row := []int{1, -1, 1}
	list = append(list, [][]int{row, row, row})
	for _, m := range list {
		roomy := roomyMatrix(m)
		before := copyLists(roomy[:cap(roomy)])
		impl.MatrixValid(roomy)
		impl.Det(roomy)
		if !sameLists(copyLists(roomy[:cap(roomy)]), before) {
			t.Fatal("written into", m)
		}
		kept := copyMatrix(m)
		if impl.Det(m) != impl.Det(roomy) || !sameLists(m, kept) {
			t.Fatal(m, kept)
		}
	}
}

// TestCountsAreTheSameEachTime calls each function so often that a map would be walked in several orders.
func TestCountsAreTheSameEachTime(t *testing.T) {
	fields := append(countFields(t), field{filled(6, 4, 24), nil}, field{region(t, "#####/#####/##.##/#####/#####"), nil})
	for _, f := range fields {
		counts := countsOf(f)
		lists := map[string][][]int{}
		for name, maker := range countMakers() {
			lists[name] = maker(f)
		}
		for range 10 {
			if again := countsOf(f); !slices.Equal(again, counts) {
				t.Fatal(f, counts, again)
			}
			for name, maker := range countMakers() {
				if again := maker(f); !sameLists(again, lists[name]) {
					t.Fatal(name, f, lists[name], again)
				}
			}
		}
	}
}

func TestNothingPanicsWithCounts(t *testing.T) {
	for _, f := range append(wrongFields(), countFields(t)...) {
		countsOf(f)
		for _, maker := range countMakers() {
			maker(f)
		}
		for _, far := range append(noWays(), 1, 2, 3, 4, 24, 35, 63, 64) {
			impl.TilingsWith(f.r, far, impl.ToEast)
			impl.TilingsWith(f.r, 0, far)
			impl.TilingsWith(f.r, far, far)
			impl.PartRegion(f.r, far)
			impl.AcrossMany(f.r, far, 0)
			impl.AcrossMany(f.r, 1, far)
			impl.AcrossMany(f.r, far, far)
			impl.AcrossSum(f.r, far)
			impl.TilingOf(f.r, far)
			impl.TwoRows(far)
			impl.ThreeRows(far)
		}
	}
	for _, m := range append(wrongMatrices(), nil, make([][]int, 1<<16)) {
		impl.MatrixValid(m)
		impl.Det(m)
	}
}
