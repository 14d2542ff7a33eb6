package tests

import (
	"slices"
	"testing"

	"loop.example/dominotilings/impl"
)

func TestBookConstants(t *testing.T) {
	if impl.BkLay != 0 || impl.BkLift != 1 || impl.BkFlip != 2 || impl.BkForce != 3 || impl.BkBack != 4 || impl.MaxPast != 20 || impl.MaxLines != 40 || impl.MaxFlips != 60 {
		t.Error("a constant has another value")
	}
}

func TestP131BooksCanForget(t *testing.T) {
	many := map[int]int{}
	for _, s := range shelves(t) {
		forgotten := s.book
		forgotten.Past = nil
		spoilt := s.book
		spoilt.Past = append(slices.Clone(s.book.Past), s.book.Laid[1:])
		if !impl.BookValid(s.book) || !impl.BookValid(forgotten) || impl.BookValid(spoilt) {
			t.Fatal(s.book)
		}
		spoilt.Past = [][]int{slices.Repeat([]int{5}, len(s.book.Laid))}
		if impl.BookValid(spoilt) {
			t.Fatal(s.book)
		}
		many[len(s.book.Past)]++
	}
	for _, past := range []int{0, 1, 2, 19, 20} {
		if many[past] < 50 {
			t.Error("too few books with so many lists in the past", past, many)
		}
	}
	for _, b := range wrongBooks(t) {
		if impl.BookValid(b) {
			t.Error(b)
		}
	}
}

// TestP131UnfairPastsAreRefused puts a list that is right, but not fair, at any place of the past.
func TestP131UnfairPastsAreRefused(t *testing.T) {
	for _, p := range unfairPuzzles(t) {
		bare := make([]int, len(p.laid))
		for place := range impl.MaxPast {
			past := slices.Repeat([][]int{bare}, impl.MaxPast)
			if b := bookOf(p.with(bare), past...); !impl.BookValid(b) {
				t.Fatal(b)
			}
			past[place] = p.laid
			if b := bookOf(p.with(bare), past...); impl.BookValid(b) {
				t.Fatal(b)
			}
		}
	}
}

func TestP131PastsAreNotTooLong(t *testing.T) {
	for _, laid := range []string{"", "sss/nnn", "###/ew#"} {
		p := drawnPuzzle("011/012", laid)
		for many := range 25 {
			for _, before := range [][]int{p.laid, make([]int, 6), drawnList("sew/new")} {
				if impl.BookValid(bookOf(p, slices.Repeat([][]int{before}, many)...)) != (many <= 20) {
					t.Error(laid, before, many)
				}
			}
		}
	}
}

func TestP132NewBooksAreEmpty(t *testing.T) {
	for _, k := range tasks(t) {
		b := impl.BookNew(k.r, k.digits)
		if !sameBook(b, bookOf(k.with(make([]int, len(k.r.Cells))))) || !impl.BookValid(b) || impl.CellsLeft(b) != countCells(k.r) {
			t.Fatal(k.puzzle, b)
		}
		if after, ok := impl.BookDo(b, impl.Deed{Kind: impl.BkBack}); ok || !sameBook(after, b) {
			t.Fatal("taken back", k.puzzle, after)
		}
	}
	for _, p := range badDigits() {
		if b := impl.BookNew(p.r, p.digits); !noBook(b) {
			t.Error(p, b)
		}
	}
}

func TestP133DominoesCoverTwoCellsEach(t *testing.T) {
	for _, s := range shelves(t) {
		left := impl.CellsLeft(s.book)
		if left != len(bareCells(puzzleIn(s.book))) || left%2 != countCells(s.book.Field)%2 || impl.BookSolved(s.book) != (left == 0) {
			t.Fatal(s.book, left)
		}
	}
	for _, c := range []struct {
		text string
		laid string
		left int
	}{
		{"011/012", "", 6}, {"011/012", "##s/##n", 4}, {"011/012", "##s/ewn", 2}, {"011/012", "sew/new", 0}, {".", "", 0}, {"../..", "", 0}, {"5", "", 1}, {"0.1", "", 2}, {"012/.3.", "#s#/.n.", 2},
	} {
		if left := impl.CellsLeft(drawnBook(c.text, c.laid, c.laid)); left != c.left {
			t.Error(c, left)
		}
	}
	for _, b := range wrongBooks(t) {
		if left := impl.CellsLeft(b); left != -1 {
			t.Error(b, left)
		}
	}
}

// TestP134SolvedBooksAreSolved also holds books whose dominoes are a tiling that is not fair, or whose past is not valid.
func TestP134SolvedBooksAreSolved(t *testing.T) {
	solved := map[bool]int{}
	for i, k := range tasks(t) {
		lists := append(impl.TilingsAll(k.r), k.lists...)
		for j, laid := range lists {
			is := slices.ContainsFunc(k.solutions, func(other []int) bool { return slices.Equal(other, laid) })
			if impl.BookSolved(bookOf(k.with(laid))) != is || impl.BookSolved(bookOf(k.with(laid), k.lists[j%len(k.lists)])) != is {
				t.Fatal(k.with(laid), is)
			}
			if impl.BookSolved(bookOf(k.with(laid), laid[1:])) || i%9 == 0 && impl.BookSolved(bookOf(k.with(laid), slices.Repeat([][]int{laid}, 21)...)) {
				t.Fatal("the past is not valid", k.with(laid))
			}
			solved[is]++
		}
	}
	if solved[true] < 100 || solved[false] < 100 {
		t.Error("all are solved, or none is", solved)
	}
	for _, b := range wrongBooks(t) {
		if impl.BookSolved(b) {
			t.Error(b)
		}
	}
}

// kindOfDeed names what happens in a deed, so that a test can tell that all of it did happen.
func kindOfDeed(b impl.Book, d impl.Deed, next impl.Book, ok bool) string {
	p := puzzleIn(b)
	switch {
	case d.Kind == 4 && ok && slices.Equal(b.Laid, next.Laid):
		return "back to what is laid"
	case d.Kind == 4 && d == impl.Deed{Kind: 4} && !ok:
		return "nothing to take back"
	case d.Kind == 3 && ok && impl.LaidMany(b.Field, next.Laid) > impl.LaidMany(b.Field, b.Laid)+1:
		return "several are forced"
	case d.Kind == 3 && d == impl.Deed{Kind: 3} && !ok && firstBare(p, 0) >= 0:
		return "nothing is forced on a dead list"
	case d.Kind == 3 && d == impl.Deed{Kind: 3} && !ok:
		return "nothing is forced"
	case d.Kind == 2 && d.Way == 0 && !ok && impl.FlipMay(b.Field, b.Laid, d.Spot):
		return "an unfair flip"
	case d.Kind == 0 && !ok && mayLay(field{b.Field, b.Laid}, d.Spot, d.Way):
		return "an unfair domino"
	case ok && d.Kind != 4 && len(b.Past) == 20:
		return "the past is full"
	case ok:
		return "deed " + string(rune('0'+d.Kind))
	}
	return "another one"
}

// checkDeed holds BookDo against what is told, and takes the deed back.
func checkDeed(t *testing.T, b impl.Book, d impl.Deed) string {
	t.Helper()
	want, ok := toldDo(b, d)
	next, done := impl.BookDo(b, d)
	if done != ok || !sameBook(next, want) {
		t.Fatal(b, d, next, done)
	}
	if done && !impl.BookValid(next) {
		t.Fatal("not valid", b, d, next)
	}
	if !done || d.Kind == impl.BkBack {
		return kindOfDeed(b, d, next, ok)
	}
	past := b.Past
	if len(past) == impl.MaxPast {
		past = past[1:]
	}
	before, back := impl.BookDo(next, impl.Deed{Kind: impl.BkBack})
	if !back || !slices.Equal(before.Laid, b.Laid) || !sameLists(before.Past, past) || len(next.Past) != len(past)+1 {
		t.Fatal("not taken back", b, d, next, before)
	}
	return kindOfDeed(b, d, next, ok)
}

func TestP40WhatWasDoneCanBeTakenBack(t *testing.T) {
	seen := map[string]int{}
	odd := oddDeeds()
	for i, s := range shelves(t) {
		for _, d := range fieldDeeds(s.book.Field) {
			seen[checkDeed(t, s.book, d)]++
		}
		if i%8 == 0 {
			for _, d := range odd {
				seen[checkDeed(t, s.book, d)]++
			}
		}
	}
	for _, kind := range []string{
		"back to what is laid", "nothing to take back", "several are forced", "nothing is forced on a dead list", "nothing is forced", "an unfair flip", "an unfair domino", "the past is full",
		"deed 0", "deed 1", "deed 2", "deed 3", "deed 4",
	} {
		if seen[kind] < 20 {
			t.Error("too few:", kind, seen)
		}
	}
}

func TestP40DeedsThatAreKnown(t *testing.T) {
	for _, c := range []struct {
		text string
		laid string
		past []string
		d    impl.Deed
		next string
		then []string
	}{
		{"011/012", "", nil, impl.Deed{Kind: impl.BkLay, Spot: 0, Way: impl.ToEast}, "###/ew#", []string{""}},
		{"011/012", "", nil, impl.Deed{Kind: impl.BkLay, Spot: 5, Way: impl.ToSouth}, "##s/##n", []string{""}},
		{"011/012", "", []string{"##s/##n"}, impl.Deed{Kind: impl.BkLay, Spot: 4, Way: impl.ToWest}, "ew#/###", []string{"##s/##n", ""}},
		{"011/012", "sew/new", []string{"", ""}, impl.Deed{Kind: impl.BkLift, Spot: 2}, "sew/n##", []string{"", "", "sew/new"}},
		{"011/012", "sew/new", nil, impl.Deed{Kind: impl.BkLift, Spot: 1}, "sew/n##", []string{"sew/new"}},
		{"011/012", "sew/new", nil, impl.Deed{Kind: impl.BkFlip, Spot: 6}, "sss/nnn", []string{"sew/new"}},
		{"011/012", "###/ew#", []string{""}, impl.Deed{Kind: impl.BkForce}, "##s/ewn", []string{"", "###/ew#"}},
		{"012345", "", nil, impl.Deed{Kind: impl.BkForce}, "ewewew", []string{""}},
		{"01.34", "", nil, impl.Deed{Kind: impl.BkForce}, "ew.ew", []string{""}},
		{"123/.4.", "", nil, impl.Deed{Kind: impl.BkForce}, "#s#/.n.", []string{""}},
		{"011/012", "##s/ewn", []string{"", "###/ew#"}, impl.Deed{Kind: impl.BkBack}, "###/ew#", []string{""}},
		{"011/012", "###/ew#", []string{""}, impl.Deed{Kind: impl.BkBack}, "", nil},
		{"011/012", "###/ew#", []string{"", "###/ew#"}, impl.Deed{Kind: impl.BkBack}, "###/ew#", []string{""}},
		{"011/012", "", []string{"sew/new"}, impl.Deed{Kind: impl.BkBack}, "sew/new", nil},
		{".", "", []string{""}, impl.Deed{Kind: impl.BkBack}, "", nil},
	} {
		b := drawnBook(c.text, c.laid, c.past...)
		next, ok := impl.BookDo(b, c.d)
		if !ok || !sameBook(next, drawnBook(c.text, c.next, c.then...)) {
			t.Error(c, next, ok)
		}
	}
}

func TestP40WhatCannotBeDoneChangesNothing(t *testing.T) {
	for _, c := range []struct {
		text string
		laid string
		d    impl.Deed
	}{
		{"011/012", "###/ew#", impl.Deed{Kind: impl.BkLay, Spot: 3, Way: impl.ToEast}},
		{"011/012", "###/ew#", impl.Deed{Kind: impl.BkLay, Spot: 0, Way: impl.ToEast}},
		{"011/012", "###/ew#", impl.Deed{Kind: impl.BkLay, Spot: 3, Way: impl.ToSouth}},
		{"011/012", "", impl.Deed{Kind: impl.BkLay, Spot: 2, Way: impl.ToEast}},
		{"011/012", "", impl.Deed{Kind: impl.BkLay}},
		{"011/012", "", impl.Deed{Kind: impl.BkLay, Spot: 6, Way: impl.ToSouth}},
		{"01/2.", "", impl.Deed{Kind: impl.BkLay, Spot: 0, Way: impl.ToEast}},
		{"011/012", "###/ew#", impl.Deed{Kind: impl.BkLift, Spot: 2}},
		{"011/012", "###/ew#", impl.Deed{Kind: impl.BkLift, Spot: 0, Way: impl.ToEast}},
		{"011/012", "###/ew#", impl.Deed{Kind: impl.BkLift, Spot: -1}},
		{"011/012", "###/ew#", impl.Deed{Kind: impl.BkLift, Spot: 6}},
		{"011/012", "sss/nnn", impl.Deed{Kind: impl.BkFlip, Spot: 5}},
		{"011/012", "sew/new", impl.Deed{Kind: impl.BkFlip, Spot: 5}},
		{"011/012", "sew/new", impl.Deed{Kind: impl.BkFlip, Spot: 6, Way: impl.ToNorth}},
		{"11/23", "ss/nn", impl.Deed{Kind: impl.BkFlip}},
		{"12/12", "ss/nn", impl.Deed{Kind: impl.BkFlip, Spot: 4}},
		{"011/012", "", impl.Deed{Kind: impl.BkForce}},
		{"011/012", "##s/ewn", impl.Deed{Kind: impl.BkForce}},
		{"011/012", "sew/new", impl.Deed{Kind: impl.BkForce}},
		{"011/012", "###/ew#", impl.Deed{Kind: impl.BkForce, Spot: 1}},
		{"011/012", "###/ew#", impl.Deed{Kind: impl.BkForce, Way: 1}},
		{"0110", "ew##", impl.Deed{Kind: impl.BkForce}},
		{"5", "", impl.Deed{Kind: impl.BkForce}},
		{".", "", impl.Deed{Kind: impl.BkForce}},
		{".", "", impl.Deed{Kind: impl.BkLay, Way: impl.ToEast}},
		{"011/012", "###/ew#", impl.Deed{Kind: 5}},
		{"011/012", "###/ew#", impl.Deed{Kind: -1}},
	} {
		for _, past := range [][]string{nil, {""}, {c.laid}, slices.Repeat([]string{c.laid}, 20)} {
			b := drawnBook(c.text, c.laid, past...)
			if next, ok := impl.BookDo(b, c.d); ok || !sameBook(next, b) {
				t.Error(c, next, ok)
			}
		}
	}
	for _, d := range []impl.Deed{{Kind: impl.BkBack, Spot: 1}, {Kind: impl.BkBack, Way: 1}, {Kind: impl.BkBack, Spot: -1}, {Kind: impl.BkBack, Way: -1}} {
		b := drawnBook("011/012", "###/ew#", "", "##s/##n")
		if next, ok := impl.BookDo(b, d); ok || !sameBook(next, b) {
			t.Error(d, next, ok)
		}
	}
}

// TestP40TheFirstOfAFullPastIsGone goes on from a past of 20 different lists and of 19.
func TestP40TheFirstOfAFullPastIsGone(t *testing.T) {
	p := drawnPuzzle("666666/012345", "")
	b := impl.BookNew(p.r, p.digits)
	all := [][]int{b.Laid}
	for i := range 50 {
		d := impl.Deed{Kind: impl.BkLay, Spot: i % 6, Way: impl.ToNorth}
		if i%12 > 5 {
			d = impl.Deed{Kind: impl.BkLift, Spot: i % 6}
		}
		next, ok := impl.BookDo(b, d)
		if !ok || !sameLists(next.Past, all[max(0, len(all)-20):]) || !impl.BookValid(next) {
			t.Fatal(i, b, next, ok)
		}
		all = append(all, next.Laid)
		b = next
	}
	for many := range 21 {
		next, ok := impl.BookDo(b, impl.Deed{Kind: impl.BkBack})
		if ok != (many < 20) || ok && !slices.Equal(next.Laid, all[49-many]) || !ok && !sameBook(next, b) {
			t.Fatal(many, next, ok)
		}
		b = next
	}
}

func TestP40OtherBooksStayNothing(t *testing.T) {
	for _, b := range wrongBooks(t) {
		for _, d := range []impl.Deed{{}, {Way: 1}, {Spot: 2, Way: 2}, {Kind: 1}, {Kind: 2}, {Kind: 2, Spot: 4}, {Kind: 3}, {Kind: 4}, {Kind: 5}, {Kind: -1, Spot: 1, Way: 1}} {
			if next, ok := impl.BookDo(b, d); ok || !noBook(next) {
				t.Error(b, d, next, ok)
			}
		}
	}
}
