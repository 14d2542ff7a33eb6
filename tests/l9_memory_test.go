package tests

import (
	"slices"
	"strings"
	"testing"

	"loop.example/dominotilings/impl"
)

// puzzleMakers are all functions of the chapter that return lists, also where they return the list that they are given.
func puzzleMakers() map[string]func(p puzzle) [][]int {
	options := func(cell int) func(p puzzle) [][]int {
		return func(p puzzle) [][]int { return [][]int{impl.OptionsOf(p.r, p.digits, p.laid, cell)} }
	}
	made := func(from int) func(p puzzle) [][]int {
		return func(p puzzle) [][]int { return [][]int{impl.MakePuzzle(p.r, p.laid, from)} }
	}
	return map[string]func(p puzzle) [][]int{
		"PairsOf":           func(p puzzle) [][]int { return [][]int{impl.PairsOf(p.r, p.digits, p.laid)} },
		"SolutionsAll":      func(p puzzle) [][]int { return impl.SolutionsAll(p.r, p.digits) },
		"OptionsOf":         options(0),
		"OptionsOf the 4":   options(4),
		"OptionsOf nowhere": options(-1),
		"ForceOne": func(p puzzle) [][]int {
			laid, _ := impl.ForceOne(p.r, p.digits, p.laid)
			return [][]int{laid}
		},
		"ForceAll": func(p puzzle) [][]int { return [][]int{impl.ForceAll(p.r, p.digits, p.laid)} },
		"SolveFirst": func(p puzzle) [][]int {
			laid, _ := impl.SolveFirst(p.r, p.digits, p.laid)
			return [][]int{laid}
		},
		"MakePuzzle":      made(0),
		"MakePuzzle 27":   made(27),
		"MakePuzzle 28":   made(28),
		"Relabel":         func(p puzzle) [][]int { return [][]int{impl.Relabel(p.r, p.digits, []int{6, 5, 4, 3, 2, 1, 0})} },
		"Relabel by laid": func(p puzzle) [][]int { return [][]int{impl.Relabel(p.r, p.digits, p.laid)} },
		"ReadPuzzle": func(p puzzle) [][]int {
			_, digits, _ := impl.ReadPuzzle(impl.PuzzleText(p.r, p.digits))
			return [][]int{digits}
		},
	}
}

// puzzleAnswers calls all functions of the chapter that return no list.
func puzzleAnswers(p puzzle) []any {
	cell, way := impl.HintOf(p.r, p.digits, p.laid)
	return []any{
		impl.PuzzleValid(p.r, p.digits), impl.FairOk(p.r, p.digits, p.laid), impl.SolvedOk(p.r, p.digits, p.laid), impl.SolutionsMany(p.r, p.digits),
		impl.Dead(p.r, p.digits, p.laid), cell, way, impl.PuzzleText(p.r, p.digits), impl.PairOf(cell, way),
	}
}

func roomyList(list []int) []int {
	return append(make([]int, 0, len(list)+8), list...)
}

// roomyPuzzle returns the arguments with spare capacity behind all that has some.
func roomyPuzzle(p puzzle) puzzle {
	return puzzle{roomy(p.r), roomyList(p.digits), roomyList(p.laid)}
}

// wholePuzzle returns copies of all memory that the arguments have.
func wholePuzzle(p puzzle) puzzle {
	return puzzle{impl.Region{Cells: whole(p.r)}, wholeList(p.digits), wholeList(p.laid)}
}

// checkPuzzle compares arguments with copies of all their memory.
func checkPuzzle(t *testing.T, name string, p puzzle, before puzzle) {
	t.Helper()
	if !slices.Equal(whole(p.r), before.r.Cells) || !slices.Equal(wholeList(p.digits), before.digits) || !slices.Equal(wholeList(p.laid), before.laid) {
		t.Fatal(name, "writes into", p)
	}
}

// memoryPuzzles returns puzzles for which each function has a result, and some for which it has none.
func memoryPuzzles(t *testing.T) []puzzle {
	t.Helper()
	list := append(wrongPuzzles(), unfairPuzzles(t)[:12]...)
	list = append(list,
		drawnPuzzle("011/012", ""), drawnPuzzle("011/012", "###/ew#"), drawnPuzzle("011/012", "sss/nnn"), drawnPuzzle("012345", ""), drawnPuzzle("01/23", ""),
		drawnPuzzle("000/1.0/222", ""), drawnPuzzle(".", "."), drawnPuzzle("5", ""), drawnPuzzle("012345.", "").with([]int{6, 5, 4, 3, 2, 1, 0}),
		drawnPuzzle("01234", "").with([]int{0, 1, 2, 3, 4, 5, 6}),
	)
	for i, k := range tasks(t) {
		if i%29 == 0 {
			list = append(list, k.with(k.lists[0]), k.with(k.lists[len(k.lists)-1]))
		}
	}
	return list
}

func TestPuzzlesAreNotWrittenTo(t *testing.T) {
	for _, given := range memoryPuzzles(t) {
		p := roomyPuzzle(given)
		before := wholePuzzle(p)
		for name, maker := range puzzleMakers() {
			maker(p)
			checkPuzzle(t, name, p, before)
		}
		puzzleAnswers(p)
		checkPuzzle(t, "a question", p, before)
	}
}

func TestNamesAreNotWrittenTo(t *testing.T) {
	p := drawnPuzzle("0123/456.", "")
	for _, names := range append(someNames(), nil, []int{0}, []int{6, 6, 6, 1, 2, 3, 4}, []int{7, 0, 1, 2, 3, 4, 5}) {
		roomy := roomyList(names)
		before := wholeList(roomy)
		changed := impl.Relabel(p.r, p.digits, roomy)
		if !slices.Equal(wholeList(roomy), before) {
			t.Fatal("writes into", names)
		}
		kept := wholeList(changed)
		scribble(roomy)
		if !slices.Equal(wholeList(changed), kept) {
			t.Fatal("keeps", names)
		}
	}
}

func TestPuzzlesShareNoMemory(t *testing.T) {
	for _, given := range memoryPuzzles(t) {
		for name, maker := range puzzleMakers() {
			p := roomyPuzzle(given)
			before := wholePuzzle(p)
			first, second := maker(p), maker(p)
			kept := copyLists(first)
			for _, list := range second {
				scribble(list)
			}
			checkPuzzle(t, name, p, before)
			if !sameLists(copyLists(first), kept) || !sameLists(maker(p), first) {
				t.Fatal(name, "shares memory or remembers", given)
			}
			invert(p.r)
			scribble(p.digits)
			scribble(p.laid)
			if !sameLists(copyLists(first), kept) {
				t.Fatal(name, "keeps memory of", given)
			}
			checkApart(t, given.r, first)
		}
	}
}

func TestReadPuzzleKeepsNothing(t *testing.T) {
	for _, text := range []string{"011/012", "0.", "."} {
		first, _, _ := impl.ReadPuzzle(text)
		second, _, _ := impl.ReadPuzzle(text)
		kept := whole(first)
		invert(second)
		if r, digits, ok := impl.ReadPuzzle(text); !ok || !slices.Equal(whole(first), kept) || impl.PuzzleText(r, digits) != text {
			t.Error(text, r, digits, ok)
		}
	}
}

func TestPuzzlesAreTheSameEachTime(t *testing.T) {
	for _, p := range memoryPuzzles(t) {
		answers := puzzleAnswers(p)
		for name, maker := range puzzleMakers() {
			lists := maker(p)
			for range 3 {
				if !slices.Equal(puzzleAnswers(p), answers) || !sameLists(maker(p), lists) {
					t.Fatal(name, p)
				}
			}
		}
	}
}

func TestNothingPanicsWithPuzzles(t *testing.T) {
	list := memoryPuzzles(t)
	for _, f := range append(wrongFields(), memoryFields()...) {
		for _, digits := range [][]int{nil, f.laid, make([]int, len(f.r.Cells)), everywhere(f.r, 2), farNumbers()} {
			list = append(list, puzzle{f.r, digits, f.laid}, puzzle{f.r, digits, nil}, puzzle{f.r, digits, farNumbers()}, puzzle{f.r, digits, make([]int, 40)})
		}
	}
	for _, p := range list {
		puzzleAnswers(p)
		for _, maker := range puzzleMakers() {
			maker(p)
		}
		for _, far := range append(noWays(), 1, 2, 3, 4, 24, 27, 28, 35) {
			impl.OptionsOf(p.r, p.digits, p.laid, far)
			impl.MakePuzzle(p.r, p.laid, far)
			impl.PairOf(far, far)
			impl.Relabel(p.r, p.digits, []int{0, 1, 2, 3, 4, 5, far})
		}
	}
	for _, text := range []string{strings.Repeat("01", 1<<15), strings.Repeat("/", 1<<16), strings.Repeat("0/", 1<<15)} {
		impl.ReadPuzzle(text)
	}
}
