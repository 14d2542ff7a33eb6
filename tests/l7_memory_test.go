package tests

import (
	"slices"
	"testing"

	"loop.example/dominotilings/impl"
)

// lackMakers are all functions of the chapter that return a list for a region and a list of cells.
func lackMakers() map[string]func(f field) [][]int {
	return map[string]func(f field) [][]int{
		"DarkCells":   func(f field) [][]int { return [][]int{impl.DarkCells(f.r)} },
		"CellsBeside": func(f field) [][]int { return [][]int{impl.CellsBeside(f.r, f.laid)} },
		"LackSet":     func(f field) [][]int { return [][]int{impl.LackSet(f.r)} },
	}
}

// boxMakers are all functions of the chapter that return a list for the sides of a box.
func boxMakers() map[string]func(wide int, tall int) []int {
	cut := func(a int, b int) func(wide int, tall int) []int {
		return func(wide int, tall int) []int {
			laid, _ := impl.CutTwo(wide, tall, a, b)
			return laid
		}
	}
	return map[string]func(wide int, tall int) []int{
		"RoundOf":         impl.RoundOf,
		"CutTwo":          cut(0, 1),
		"CutTwo far away": cut(0, 3),
		"CutTwo of one":   cut(0, 0),
		"CutTwo nowhere":  cut(-1, 0),
	}
}

// lacksOf calls all functions of the chapter that return a number for a region.
func lacksOf(r impl.Region) []int {
	list := []int{impl.LackMost(r), impl.LaidMost(r)}
	for number := range impl.MaxBar + 2 {
		even := 0
		if impl.ColoursEven(r, number) {
			even = 1
		}
		list = append(list, even, impl.BarsMany(r, number), impl.ColourMany(r, number, 0), impl.ColourMany(r, number, 1))
	}
	return list
}

// lackFields returns regions with lists of cells for which each function has a result, and some for which it has none.
func lackFields(t *testing.T) []field {
	t.Helper()
	list := memoryFields()
	for _, r := range slices.Concat(lackRegions(t), holedRegions(t), badRegions()) {
		list = append(list, field{r, nil}, field{r, []int{0, 1, 1}}, field{r, []int{3, 2, 0, -1, 99}}, field{r, farNumbers()}, field{r, impl.DarkCells(r)})
	}
	return list
}

func TestObstructionsWriteNowhere(t *testing.T) {
	for _, f := range lackFields(t) {
		for name, maker := range lackMakers() {
			checkNotWritten(t, name, maker, f)
		}
		g := roomyField(f)
		cells := whole(g.r)
		lacksOf(g.r)
		if !slices.Equal(whole(g.r), cells) {
			t.Fatal("a question writes into", f)
		}
	}
}

func TestObstructionsShareNoMemory(t *testing.T) {
	for _, f := range lackFields(t) {
		for name, maker := range lackMakers() {
			checkUnshared(t, name, maker, f)
		}
	}
}

func TestBoxesShareNoMemory(t *testing.T) {
	for name, maker := range boxMakers() {
		eachSides(func(wide int, tall int) {
			first, second := maker(wide, tall), maker(wide, tall)
			kept := wholeList(first)
			scribble(second)
			if !slices.Equal(wholeList(first), kept) || !slices.Equal(maker(wide, tall), first) {
				t.Fatal(name, "shares memory or remembers", wide, tall)
			}
		})
	}
}

func TestObstructionsAreTheSameEachTime(t *testing.T) {
	for _, f := range lackFields(t) {
		numbers := lacksOf(f.r)
		for name, maker := range lackMakers() {
			lists := maker(f)
			for range 3 {
				if !sameLists(maker(f), lists) || !slices.Equal(lacksOf(f.r), numbers) {
					t.Fatal(name, f, lists, numbers)
				}
			}
		}
	}
}

func TestNothingPanicsWithObstructions(t *testing.T) {
	for _, f := range append(wrongFields(), lackFields(t)...) {
		lacksOf(f.r)
		for _, maker := range lackMakers() {
			maker(f)
		}
		for _, far := range append(noWays(), 1, 2, 3, 4, 24, 35, 63, 64) {
			impl.CellsBeside(f.r, []int{far})
			impl.ColourMany(f.r, far, 0)
			impl.ColourMany(f.r, 2, far)
			impl.ColourMany(f.r, far, far)
			impl.ColoursEven(f.r, far)
			impl.BarsMany(f.r, far)
		}
	}
	eachSides(func(wide int, tall int) {
		impl.RoundOf(wide, tall)
		for _, far := range append(farNumbers(), 0, 1, 3, 23, 24) {
			impl.CutTwo(wide, tall, far, 1)
			impl.CutTwo(wide, tall, 1, far)
			impl.CutTwo(wide, tall, far, far)
		}
	})
}
