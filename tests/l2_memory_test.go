package tests

import (
	"slices"
	"strings"
	"testing"

	"loop.example/dominotilings/impl"
)

// listMakers are all functions of the chapter that return lists, also where they return the list that they are given.
func listMakers() map[string]func(f field) [][]int {
	lay := func(cell int, way int) func(f field) [][]int {
		return func(f field) [][]int {
			laid, _ := impl.LayOne(f.r, f.laid, cell, way)
			return [][]int{laid}
		}
	}
	lift := func(cell int) func(f field) [][]int {
		return func(f field) [][]int {
			laid, _ := impl.LiftOne(f.r, f.laid, cell)
			return [][]int{laid}
		}
	}
	return map[string]func(f field) [][]int{
		"LaidBare":           func(f field) [][]int { return [][]int{impl.LaidBare(f.r)} },
		"LayOne":             lay(0, impl.ToEast),
		"LayOne nowhere":     lay(-1, impl.ToEast),
		"LayOne no way":      lay(0, impl.ToNone),
		"LayOne to the edge": lay(0, impl.ToSouth),
		"LiftOne":            lift(0),
		"LiftOne nowhere":    lift(-1),
		"LiftOne the last":   lift(5),
		"TilingTurn":         func(f field) [][]int { return [][]int{impl.TilingTurn(f.r, f.laid)} },
		"TilingFlip":         func(f field) [][]int { return [][]int{impl.TilingFlip(f.r, f.laid)} },
		"FaultsOf":           func(f field) [][]int { return [][]int{impl.FaultsOf(f.r, f.laid)} },
		"TilingsAll":         func(f field) [][]int { return impl.TilingsAll(f.r) },
		"TilingFirst": func(f field) [][]int {
			laid, _ := impl.TilingFirst(f.r)
			return [][]int{laid}
		},
		"Complete": func(f field) [][]int {
			laid, _ := impl.Complete(f.r, f.laid)
			return [][]int{laid}
		},
		"ReadLaid": func(f field) [][]int {
			_, laid, _ := impl.ReadLaid(impl.LaidText(f.r, f.laid))
			return [][]int{laid}
		},
	}
}

// askLaid calls all functions of the chapter that return no list.
func askLaid(f field) {
	impl.StepTo(f.r, 0, impl.ToEast)
	impl.LaidOk(f.r, f.laid)
	impl.TilingOk(f.r, f.laid)
	impl.LaidMany(f.r, f.laid)
	impl.FlatMany(f.r, f.laid)
	impl.LaidText(f.r, f.laid)
}

// roomyField returns the field with spare capacity behind its cells and behind its list.
func roomyField(f field) field {
	return field{roomy(f.r), append(make([]int, 0, len(f.laid)+8), f.laid...)}
}

func wholeList(list []int) []int {
	return slices.Clone(list[:cap(list)])
}

// scribble writes into all memory that a list has.
func scribble(list []int) {
	all := list[:cap(list)]
	for i := range all {
		all[i] += 77
	}
}

func copyLists(lists [][]int) [][]int {
	var copies [][]int
	for _, list := range lists {
		copies = append(copies, wholeList(list))
	}
	return copies
}

func sameLists(a [][]int, b [][]int) bool {
	return slices.EqualFunc(a, b, slices.Equal[[]int])
}

// memoryFields returns fields for which each function has a result, and some for which it has none.
func memoryFields() []field {
	list := []field{
		{filled(4, 6, 24), make([]int, 24)},
		{filled(3, 2, 6), make([]int, 6)},
		{filled(3, 2, 6), []int{1, 3, 0, 1, 3, 0}},
		{filled(3, 2, 6), []int{2, 2, 2, 4, 4, 4}},
		{filled(3, 3, 9), make([]int, 9)},
		{filled(3, 3, 9), []int{0, 1, 3, 0, 0, 0, 2, 0, 0}},
		{filled(3, 2, 0), make([]int, 6)},
		{filled(1, 1, 1), []int{0}},
	}
	return append(list, wrongFields()...)
}

// checkNotWritten calls a function and looks whether it has written into its arguments or behind them.
func checkNotWritten(t *testing.T, name string, maker func(f field) [][]int, f field) {
	t.Helper()
	g := roomyField(f)
	cells, laid := whole(g.r), wholeList(g.laid)
	maker(g)
	askLaid(g)
	if !slices.Equal(whole(g.r), cells) || !slices.Equal(wholeList(g.laid), laid) {
		t.Fatal(name, "writes into", f)
	}
}

// checkUnshared writes into one result and into the arguments: another result stays as it is.
func checkUnshared(t *testing.T, name string, maker func(f field) [][]int, f field) {
	t.Helper()
	g := roomyField(f)
	cells, laid := whole(g.r), wholeList(g.laid)
	first, second := maker(g), maker(g)
	kept := copyLists(first)
	for _, list := range second {
		scribble(list)
	}
	if !sameLists(copyLists(first), kept) || !slices.Equal(whole(g.r), cells) || !slices.Equal(wholeList(g.laid), laid) {
		t.Fatal(name, "shares memory of", f)
	}
	if !sameLists(maker(g), maker(roomyField(f))) {
		t.Fatal(name, "remembers", f)
	}
	invert(g.r)
	scribble(g.laid)
	if !sameLists(copyLists(first), kept) {
		t.Fatal(name, "keeps memory of", f)
	}
}

// checkApart writes into the lists of one result, one after the other: those behind stay as they are.
func checkApart(t *testing.T, r impl.Region, all [][]int) {
	t.Helper()
	kept := copyLists(all)
	for i, list := range all {
		scribble(list)
		if !sameLists(copyLists(all[i+1:]), kept[i+1:]) {
			t.Fatal(r, i)
		}
	}
	for i, list := range all {
		for j := range list {
			if list[j] != kept[i][j]+77 {
				t.Fatal("written to more than once", r, i)
			}
		}
	}
}

func TestListsAreNotWrittenTo(t *testing.T) {
	for name, maker := range listMakers() {
		for _, f := range memoryFields() {
			checkNotWritten(t, name, maker, f)
		}
	}
}

func TestListsShareNoMemory(t *testing.T) {
	for name, maker := range listMakers() {
		for _, f := range memoryFields() {
			checkUnshared(t, name, maker, f)
		}
	}
}

func TestTilingsShareNoMemoryWithEachOther(t *testing.T) {
	for _, r := range []impl.Region{filled(4, 6, 24), filled(3, 2, 6), filled(2, 2, 4)} {
		checkApart(t, r, impl.TilingsAll(r))
	}
}

func TestReadLaidKeepsNothing(t *testing.T) {
	r, _, _ := impl.ReadLaid("sew/new")
	invert(r)
	if again, laid, ok := impl.ReadLaid("sew/new"); !ok || !sameRegion(again, filled(3, 2, 6)) || impl.LaidText(again, laid) != "sew/new" {
		t.Error(again, laid, ok)
	}
}

func TestNothingPanicsWithLists(t *testing.T) {
	odd := append(wrongFields(), memoryFields()...)
	for _, f := range odd {
		askLaid(f)
		for _, maker := range listMakers() {
			maker(f)
		}
		for _, far := range append(noWays(), 1, 2, 3, 4, 24, 35) {
			impl.StepTo(f.r, far, impl.ToEast)
			impl.StepTo(f.r, 0, far)
			impl.StepTo(f.r, far, far)
			impl.LayOne(f.r, f.laid, far, impl.ToNorth)
			impl.LayOne(f.r, f.laid, 0, far)
			impl.LayOne(f.r, f.laid, far, far)
			impl.LiftOne(f.r, f.laid, far)
		}
	}
	for _, text := range []string{strings.Repeat("ew", 1<<15), strings.Repeat("/", 1<<16), strings.Repeat("ew/", 1<<15)} {
		impl.ReadLaid(text)
	}
}
