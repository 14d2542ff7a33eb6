package tests

import (
	"slices"
	"testing"

	"loop.example/dominotilings/impl"
)

// TestP122SolutionsAreTold tries all lists of small puzzles: a list is a solution exactly if it is one of SolutionsAll.
func TestP122SolutionsAreTold(t *testing.T) {
	many := map[int]int{}
	for _, k := range tinyTasks() {
		all := impl.SolutionsAll(k.r, k.digits)
		many[len(all)]++
		if !sameLists(all, k.solutions) {
			t.Fatal(k.puzzle, all)
		}
		for _, laid := range allLaid(k.r) {
			p := k.with(laid)
			solved := isFull(k.r, laid) && toldFair(p)
			told := slices.ContainsFunc(all, func(other []int) bool { return slices.Equal(other, laid) })
			if impl.SolvedOk(k.r, k.digits, laid) != solved || told != solved {
				t.Fatal(p, solved, told)
			}
		}
	}
	if many[0] == 0 || many[1] == 0 || many[2] == 0 {
		t.Error("no puzzles with so many solutions", many)
	}
}

func TestP122SolvedOkNeedsBoth(t *testing.T) {
	for _, p := range unfairPuzzles(t) {
		if impl.SolvedOk(p.r, p.digits, p.laid) {
			t.Error("it is not fair", p)
		}
	}
	eachFair(t, func(k task, p puzzle) {
		if impl.SolvedOk(p.r, p.digits, p.laid) != isFull(p.r, p.laid) {
			t.Fatal(p)
		}
	})
	for _, p := range wrongPuzzles() {
		if impl.SolvedOk(p.r, p.digits, p.laid) {
			t.Error(p)
		}
	}
}

func TestP123SolutionsAreTilings(t *testing.T) {
	many := map[int]int{}
	for _, k := range tasks(t) {
		var solved [][]int
		for _, laid := range impl.TilingsAll(k.r) {
			if impl.SolvedOk(k.r, k.digits, laid) {
				solved = append(solved, laid)
			}
		}
		all := impl.SolutionsAll(k.r, k.digits)
		if !sameLists(all, k.solutions) || !sameLists(all, solved) || impl.SolutionsMany(k.r, k.digits) != len(solved) {
			t.Fatal(k.puzzle, all, solved)
		}
		for _, laid := range all {
			if !impl.SolvedOk(k.r, k.digits, laid) || !impl.TilingOk(k.r, laid) {
				t.Fatal(k.puzzle, laid)
			}
		}
		if len(k.r.Cells) > 6 {
			many[min(len(all), 3)]++
		}
	}
	if len(many) != 4 {
		t.Error("no large puzzles with so many solutions", many)
	}
	for _, p := range badDigits() {
		if all := impl.SolutionsAll(p.r, p.digits); len(all) != 0 || impl.SolutionsMany(p.r, p.digits) != -1 {
			t.Error(p, all)
		}
	}
}

func TestP123SolutionsThatAreKnown(t *testing.T) {
	for _, c := range []struct {
		text string
		laid []string
	}{
		{"011/012", []string{"sew/new", "sss/nnn"}},
		{"012/012", []string{"sss/nnn"}},
		{"012/210", []string{"ews/ewn", "sew/new"}},
		{"01/23", []string{"ew/ew", "ss/nn"}},
		{"00/11", []string{"ew/ew"}},
		{"01/01", []string{"ss/nn"}},
		{"01/10", nil},
		{"00/00", nil},
		{"55", []string{"ew"}},
		{"5/5", []string{"s/n"}},
		{"5", nil},
		{"5.", nil},
		{"0.1", nil},
		{"01.23", []string{"ew.ew"}},
		{"01.10", nil},
		{"0110", nil},
		{"0112", []string{"ewew"}},
		{"000/1.0/222", []string{"sew/n.s/ewn"}},
		{".", []string{"."}},
		{".../...", []string{".../..."}},
	} {
		p := drawnPuzzle(c.text, "")
		var texts []string
		for _, laid := range impl.SolutionsAll(p.r, p.digits) {
			texts = append(texts, impl.LaidText(p.r, laid))
		}
		if !slices.Equal(texts, c.laid) || impl.SolutionsMany(p.r, p.digits) != len(c.laid) {
			t.Error(c, texts)
		}
	}
}

func TestP124TheSameNumberEverywhereAllowsOneDomino(t *testing.T) {
	for i, r := range validRegions() {
		cells, digit := countCells(r), i%7
		want := 0
		if cells == 0 || cells == 2 && len(spots(r)) == 1 {
			want = 1
		}
		if many := impl.SolutionsMany(r, everywhere(r, digit)); many != want || many > 0 && cells > 2 {
			t.Fatal(r, digit, many)
		}
	}
	for _, k := range tasks(t) {
		if impl.SolutionsMany(k.r, k.digits) > impl.TilingsMany(k.r) {
			t.Fatal(k.puzzle)
		}
	}
}

func TestP36WhatIsDeadHasNoSolution(t *testing.T) {
	dead, stuck := 0, 0
	eachFair(t, func(k task, p puzzle) {
		is := impl.Dead(p.r, p.digits, p.laid)
		if is != (firstBare(p, 0) >= 0) || is && len(k.those(p.laid)) > 0 {
			t.Fatal(p, is)
		}
		if is {
			dead++
		} else if len(k.those(p.laid)) == 0 {
			stuck++
		}
	})
	if dead < 100 || stuck < 100 {
		t.Error("too few are dead, or have no solution and are not", dead, stuck)
	}
	for _, k := range tasks(t) {
		for _, laid := range k.solutions {
			if impl.Dead(k.r, k.digits, laid) {
				t.Fatal("a solution is dead", k.with(laid))
			}
		}
	}
}

func TestP36OtherListsAreNotDead(t *testing.T) {
	for _, p := range append(wrongPuzzles(), unfairPuzzles(t)...) {
		if impl.Dead(p.r, p.digits, p.laid) {
			t.Error(p)
		}
	}
	for _, c := range []struct {
		text string
		laid string
		dead bool
	}{
		{".", ".", false},
		{"0", "", true},
		{"0.", "", true},
		{"01", "", false},
		{"01", "ew", false},
		{"0.1", "", true},
		{"012", "", false},
		{"012", "ew#", true},
		{"012", "#ew", true},
		{"0110", "", false},
		{"0110", "ew##", true},
		{"0112", "ew##", false},
		{"00/00", "", false},
		{"00/00", "ew/##", true},
		{"01/23", "ew/##", false},
		{"011/012", "###/ew#", true},
		{"011/012", "##s/##n", false},
		{"01.01", "##.ew", true},
	} {
		p := drawnPuzzle(c.text, c.laid)
		if impl.Dead(p.r, p.digits, p.laid) != c.dead {
			t.Error(c)
		}
	}
}

func TestP127TheFirstSolutionIsOne(t *testing.T) {
	found, none := 0, 0
	eachFair(t, func(k task, p puzzle) {
		those := k.those(p.laid)
		first, ok := impl.SolveFirst(p.r, p.digits, p.laid)
		if len(those) == 0 {
			none++
			if ok || len(first) != 0 {
				t.Fatal("there is none", p, first)
			}
			return
		}
		found++
		if !ok || !slices.Equal(first, those[0]) || !impl.SolvedOk(p.r, p.digits, first) || !hasAll(first, p.laid) {
			t.Fatal(p, first, ok)
		}
	})
	if found < 100 || none < 100 {
		t.Error("too few with a solution, or without one", found, none)
	}
	for _, k := range tasks(t) {
		all := impl.SolutionsAll(k.r, k.digits)
		if first, ok := impl.SolveFirst(k.r, k.digits, make([]int, len(k.r.Cells))); ok != (len(all) > 0) || ok && !slices.Equal(first, all[0]) {
			t.Fatal(k.puzzle, first)
		}
		for _, laid := range all {
			if first, ok := impl.SolveFirst(k.r, k.digits, laid); !ok || !slices.Equal(first, laid) {
				t.Fatal("it is a solution already", k.with(laid), first)
			}
		}
	}
}

func TestP127NoSolutionOfOtherLists(t *testing.T) {
	for _, p := range append(wrongPuzzles(), unfairPuzzles(t)...) {
		if first, ok := impl.SolveFirst(p.r, p.digits, p.laid); ok || len(first) != 0 {
			t.Error(p, first)
		}
	}
	for _, c := range []struct {
		text  string
		laid  string
		first string
	}{
		{"011/012", "", "sew/new"},
		{"011/012", "##s/##n", "sss/nnn"},
		{"011/012", "#ew/###", "sew/new"},
		{"011/012", "###/ew#", ""},
		{"00/00", "", ""},
		{".", ".", "."},
		{"0", "", ""},
		{"01/23", "", "ew/ew"},
		{"01/23", "s#/n#", "ss/nn"},
		{"01/23", "ss/nn", "ss/nn"},
	} {
		p := drawnPuzzle(c.text, c.laid)
		first, ok := impl.SolveFirst(p.r, p.digits, p.laid)
		if impl.LaidText(p.r, first) != c.first || ok != (c.first != "") {
			t.Error(c, first, ok)
		}
	}
}
