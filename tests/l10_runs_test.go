package tests

import (
	"math/rand"
	"slices"
	"testing"

	"loop.example/dominotilings/impl"
)

// checkDeeds holds BookRun against what is told, in one part and in two, and takes back what there is of the past.
func checkDeeds(t *testing.T, b impl.Book, list []impl.Deed) int {
	t.Helper()
	want, many := toldDeeds(b, list)
	next, done := impl.BookRun(b, list)
	if done != many || !sameBook(next, want) || !impl.BookValid(next) {
		t.Fatal(b, list, next, done, many)
	}
	if !sameRegion(next.Field, b.Field) || !slices.Equal(next.Digits, b.Digits) {
		t.Fatal("another puzzle", b, list, next)
	}
	for _, cut := range []int{0, 1, len(list) / 2, len(list)} {
		cut = min(cut, len(list))
		half, first := impl.BookRun(b, list[:cut])
		all, second := impl.BookRun(half, list[cut:])
		if first+second != done || !sameBook(all, next) {
			t.Fatal("in two parts", b, list, cut)
		}
	}
	backs := slices.Repeat([]impl.Deed{{Kind: impl.BkBack}}, len(next.Past))
	bare, taken := impl.BookRun(next, backs)
	if taken != len(backs) || len(bare.Past) != 0 || len(backs) > 0 && !slices.Equal(bare.Laid, next.Past[0]) {
		t.Fatal("not taken back", b, list, bare)
	}
	return done
}

func TestP41WhateverIsDoneItStaysFair(t *testing.T) {
	dice := rand.New(rand.NewSource(13))
	full, most := 0, 0
	for i, s := range shelves(t) {
		long := []int{0, 1, 7, 40, 39, 20}[i%6]
		checkDeeds(t, s.book, someDeeds(s.book.Field, dice, long))
		done := checkDeeds(t, s.book, busyDeeds(s.book, dice, long))
		most = max(most, done)
		if long == 40 && done > 20 {
			full++
		}
	}
	if most < 40 || full < 100 {
		t.Error("too few are done", most, full)
	}
}

// TestP41RunsAreNotTooLong does 40 deeds and one more, with deeds that can be done and with others.
func TestP41RunsAreNotTooLong(t *testing.T) {
	b := drawnBook("011/012", "###/#ew", "", "")
	turns := slices.Repeat([]impl.Deed{{Kind: impl.BkLift, Spot: 1}, {Kind: impl.BkLay, Spot: 2, Way: impl.ToWest}}, 30)
	for _, list := range [][]impl.Deed{turns, slices.Repeat([]impl.Deed{{Kind: impl.BkBack}}, 60), make([]impl.Deed, 60), slices.Repeat([]impl.Deed{{Kind: 7}}, 60)} {
		for many := range 60 {
			next, done := impl.BookRun(b, list[:many])
			if many > 40 {
				if !noBook(next) || done != 0 {
					t.Fatal(many, next, done)
				}
				continue
			}
			if want, told := toldDeeds(b, list[:many]); !sameBook(next, want) || done != told {
				t.Fatal(many, next, done)
			}
		}
	}
	if next, done := impl.BookRun(b, turns[:40]); done != 40 || len(next.Past) != 20 || !slices.Equal(next.Laid, b.Laid) {
		t.Error(next, done)
	}
}

func TestP41OtherBooksAreNotRun(t *testing.T) {
	for _, b := range wrongBooks(t) {
		for _, list := range [][]impl.Deed{nil, {{Way: 1}}, {{Kind: 3}, {Kind: 4}}, make([]impl.Deed, 41)} {
			if next, done := impl.BookRun(b, list); !noBook(next) || done != 0 {
				t.Error(b, list, next, done)
			}
		}
	}
}

// checkEnd does all deeds of EndDeeds, one by one.
func checkEnd(t *testing.T, s shelf) []impl.Deed {
	t.Helper()
	list := impl.EndDeeds(s.book)
	if !slices.Equal(list, toldEnds(s)) {
		t.Fatal(s.book, list)
	}
	if len(s.solutions) == 0 {
		return list
	}
	b := s.book
	for _, d := range list {
		next, ok := impl.BookDo(b, d)
		if !ok || !impl.BookValid(next) {
			t.Fatal("not done", b, list, d)
		}
		b = next
	}
	if !impl.BookSolved(b) || !slices.Equal(b.Laid, s.solutions[0]) || len(impl.EndDeeds(b)) != 0 {
		t.Fatal("not solved", s.book, list, b)
	}
	if next, done := impl.BookRun(s.book, list); done != len(list) || !sameBook(next, b) {
		t.Fatal("not done at once", s.book, list)
	}
	return list
}

func TestP42InTheEndEveryBookIsSolved(t *testing.T) {
	seen := map[string]int{}
	for _, s := range shelves(t) {
		list := checkEnd(t, s)
		lifts := 0
		for _, d := range list {
			if d.Kind == impl.BkLift {
				lifts++
			}
		}
		switch laid := impl.LaidMany(s.book.Field, s.book.Laid); {
		case len(s.solutions) == 0:
			seen["no solution"]++
		case impl.BookSolved(s.book) && len(list) > 0:
			seen["solved otherwise"]++
		case impl.BookSolved(s.book):
			seen["solved"]++
		case laid == 0:
			seen["no domino"]++
		case lifts == 0:
			seen["nothing to lift"]++
		case lifts == laid:
			seen["all to lift"]++
		default:
			seen["some to lift"]++
		}
	}
	for _, kind := range []string{"no solution", "solved otherwise", "solved", "no domino", "nothing to lift", "all to lift", "some to lift"} {
		if seen[kind] < 10 {
			t.Error("too few:", kind, seen)
		}
	}
}

// TestP42AllSolutionsEndInTheFirst begins with each solution.
func TestP42AllSolutionsEndInTheFirst(t *testing.T) {
	for _, k := range tasks(t) {
		for i, laid := range k.solutions {
			if i < 12 || i == len(k.solutions)-1 {
				if list := checkEnd(t, shelf{bookOf(k.with(laid)), k.solutions}); (len(list) == 0) != (i == 0) {
					t.Fatal(k.with(laid), list)
				}
			}
		}
	}
}

func TestP42EndsThatAreKnown(t *testing.T) {
	lift := func(spot int) impl.Deed { return impl.Deed{Kind: impl.BkLift, Spot: spot} }
	lay := func(spot int, way int) impl.Deed { return impl.Deed{Kind: impl.BkLay, Spot: spot, Way: way} }
	for _, c := range []struct {
		text string
		laid string
		list []impl.Deed
	}{
		{"011/012", "", []impl.Deed{lay(0, impl.ToNorth), lay(1, impl.ToEast), lay(4, impl.ToEast)}},
		{"011/012", "###/ew#", []impl.Deed{lift(0), lay(0, impl.ToNorth), lay(1, impl.ToEast), lay(4, impl.ToEast)}},
		{"011/012", "sew/new", nil},
		{"011/012", "sss/nnn", []impl.Deed{lift(1), lift(2), lay(1, impl.ToEast), lay(4, impl.ToEast)}},
		{"011/012", "#ew/###", []impl.Deed{lay(0, impl.ToNorth), lay(1, impl.ToEast)}},
		{"011/012", "ew#/ew#", nil},
		{"01/23", "ss/nn", []impl.Deed{lift(0), lift(1), lay(0, impl.ToEast), lay(2, impl.ToEast)}},
		{"01/23", "s#/n#", []impl.Deed{lift(0), lay(0, impl.ToEast), lay(2, impl.ToEast)}},
		{"00/00", "", nil},
		{"00/00", "ew/##", nil},
		{"0110", "##ew", nil},
		{".", "", nil},
		{"5", "", nil},
	} {
		if list := impl.EndDeeds(drawnBook(c.text, c.laid, "", "")); !slices.Equal(list, c.list) {
			t.Error(c, list)
		}
	}
}

func TestP42NoEndOfOtherBooks(t *testing.T) {
	for _, b := range wrongBooks(t) {
		if list := impl.EndDeeds(b); len(list) != 0 {
			t.Error(b, list)
		}
	}
}
