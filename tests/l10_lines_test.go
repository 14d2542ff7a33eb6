package tests

import (
	"math/rand"
	"slices"
	"testing"

	"loop.example/dominotilings/impl"
)

// checkLine holds BookLine against what is told.
func checkLine(t *testing.T, s shelf, line string, texts map[string]impl.Deed) (shelf, string) {
	t.Helper()
	want, told := toldLine(s, line, texts)
	next, answer := impl.BookLine(s.book, line)
	if answer != told || answer == "" || !sameBook(next, want.book) {
		t.Fatalf("%v %q: %v %q, not %q", s.book, line, next, answer, told)
	}
	if !impl.BookValid(next) || answer != "ok" && !sameBook(next, s.book) {
		t.Fatalf("%v %q: %v", s.book, line, next)
	}
	return want, answer
}

func TestP138QuestionsChangeNothing(t *testing.T) {
	texts := toldTexts()
	seen := map[string]int{}
	for _, s := range shelves(t) {
		for _, line := range append(questions(), "end", "force", "back") {
			_, answer := checkLine(t, s, line, texts)
			if len(answer) < 5 && line != "show" && line != "digits" {
				seen[line+" "+answer]++
			} else if line == "hint" {
				seen["hint"]++
			}
		}
	}
	for _, both := range []string{"solved yes", "solved no", "dead yes", "dead no", "hint none", "hint", "end ok", "end none", "force ok", "force no", "back ok", "back no", "left 0", "left 1", "left 12", "past 0", "past 1", "past 19", "past 20"} {
		if seen[both] < 5 {
			t.Error("too few:", both, seen)
		}
	}
}

// TestP138DeedsAreLines says the texts of all deeds for a field, and some of others.
func TestP138DeedsAreLines(t *testing.T) {
	texts := toldTexts()
	for i, s := range shelves(t) {
		if i%10 > 0 {
			continue
		}
		for _, d := range withTexts(fieldDeeds(s.book.Field)) {
			text, _ := textOf(d)
			checkLine(t, s, text, texts)
		}
		for _, line := range []string{"lay 99 e", "lay 36 w", "lift 99", "lift 36", "flip 99", "flip 49"} {
			if _, answer := checkLine(t, s, line, texts); answer != "no" {
				t.Fatal(s.book, line, answer)
			}
		}
	}
}

func TestP138OtherLinesAreAnsweredByWhat(t *testing.T) {
	texts := toldTexts()
	for i, s := range shelves(t) {
		if i%20 > 0 {
			continue
		}
		for _, line := range oddLines() {
			if _, answer := checkLine(t, s, line, texts); answer != "what" {
				t.Fatalf("%q: %q", line, answer)
			}
		}
	}
	some := shelf{book: drawnBook("011/012", "###/ew#", "")}
	some.solutions = [][]int{drawnList("sew/new"), drawnList("sss/nnn")}
	for _, line := range append(questions(), "end", "force", "back") {
		for place := range len(line) + 1 {
			for letter := range 256 {
				one := string([]byte{byte(letter)})
				checkLine(t, some, line[:place]+one+line[place:], texts)
				if place < len(line) {
					checkLine(t, some, line[:place]+one+line[place+1:], texts)
				}
			}
		}
	}
}

func TestP138OtherBooksAnswerNothing(t *testing.T) {
	for _, b := range wrongBooks(t) {
		for _, line := range append(questions(), "end", "force", "back", "lay 0 e", "lift 0", "flip 4", "", " ", "what") {
			if next, answer := impl.BookLine(b, line); !noBook(next) || answer != "" {
				t.Error(b, line, next, answer)
			}
		}
		for _, lines := range [][]string{nil, {}, {"show"}, {"end", "left"}, {"", "x"}, make([]string, 41)} {
			if next, answers := impl.BookSay(b, lines); !noBook(next) || len(answers) != 0 {
				t.Error(b, lines, next, answers)
			}
		}
	}
}

// someLines returns deeds, most of which can be done, with questions and other lines between them.
func someLines(s shelf, dice *rand.Rand, many int) []string {
	var lines []string
	odd := oddLines()
	for _, d := range busyDeeds(s.book, dice, many) {
		line, ok := textOf(d)
		switch kind := dice.Intn(20); {
		case kind == 0:
			line = "end"
		case kind < 5:
			line = questions()[dice.Intn(7)]
		case kind < 7 || !ok:
			line = odd[dice.Intn(len(odd))]
		}
		lines = append(lines, line)
	}
	return lines
}

// checkSay holds BookSay against what is told, line by line, at once and in two parts.
func checkSay(t *testing.T, s shelf, lines []string, texts map[string]impl.Deed) {
	t.Helper()
	want, told := s, []string{}
	for _, line := range lines {
		next, answer := checkLine(t, want, line, texts)
		want, told = next, append(told, answer)
	}
	said, answers := impl.BookSay(s.book, lines)
	if !sameBook(said, want.book) || !slices.Equal(answers, told) {
		t.Fatalf("%v %q: %v %q", s.book, lines, said, answers)
	}
	for _, cut := range []int{0, 1, len(lines) / 2, len(lines)} {
		cut = min(cut, len(lines))
		half, first := impl.BookSay(s.book, lines[:cut])
		all, second := impl.BookSay(half, lines[cut:])
		if !sameBook(all, said) || !slices.Equal(append(first, second...), answers) {
			t.Fatalf("in two parts: %v %q %d", s.book, lines, cut)
		}
	}
	ended, answers := impl.BookSay(said, []string{"end", "solved"})
	if len(s.solutions) == 0 {
		if !sameBook(ended, said) || !slices.Equal(answers, []string{"none", "no"}) {
			t.Fatal("there is no solution", s.book, lines, ended, answers)
		}
		return
	}
	if !impl.BookSolved(ended) || !slices.Equal(ended.Laid, s.solutions[0]) || answers[1] != "yes" {
		t.Fatal("not solved", s.book, lines, ended, answers)
	}
}

func TestP44WhateverIsSaidInTheEndItIsSolved(t *testing.T) {
	dice, texts := rand.New(rand.NewSource(17)), toldTexts()
	for i, s := range shelves(t) {
		checkSay(t, s, someLines(s, dice, []int{0, 1, 6, 40, 39}[i%5]), texts)
	}
}

// TestP44LinesAreNotTooMany says 40 lines and one more.
func TestP44LinesAreNotTooMany(t *testing.T) {
	b := drawnBook("011/012", "", "sew/new")
	for _, line := range []string{"show", "", "what", "end", "back", "lay 0 e"} {
		for many := range 60 {
			said, answers := impl.BookSay(b, slices.Repeat([]string{line}, many))
			if many <= 40 && (len(answers) != many || !impl.BookValid(said)) || many > 40 && (len(answers) != 0 || !noBook(said)) {
				t.Fatal(line, many, said, answers)
			}
		}
	}
}

// exampleLines are the lines of the document and their answers.
func exampleLines() [][2]string {
	return [][2]string{
		{"digits", "011/012"}, {"left", "6"}, {"hint", "lay 0 n"}, {"lay 0 e", "ok"}, {"dead", "yes"}, {"force", "ok"}, {"show", "##s/ewn"}, {"lay 3 e", "no"}, {"back", "ok"},
		{"past", "1"}, {"lay 0 e", "no"}, {"back", "ok"}, {"end", "ok"}, {"show", "sew/new"}, {"solved", "yes"}, {"flip 6", "ok"}, {"show", "sss/nnn"}, {"solved", "yes"},
	}
}

func TestP44TheExamplesOfTheDocument(t *testing.T) {
	r, digits, _ := impl.ReadPuzzle("011/012")
	first := impl.BookNew(r, digits)
	b := first
	var lines, answers []string
	for _, c := range exampleLines() {
		next, answer := impl.BookLine(b, c[0])
		if answer != c[1] {
			t.Error(c, answer)
		}
		b, lines, answers = next, append(lines, c[0]), append(answers, c[1])
	}
	said, told := impl.BookSay(first, lines)
	if !sameBook(said, b) || !slices.Equal(told, answers) || len(said.Past) != 4 {
		t.Error(said, told)
	}
}

func TestP44P138AnswersThatAreKnown(t *testing.T) {
	for _, c := range []struct {
		text    string
		laid    string
		lines   []string
		answers []string
	}{
		{"011/012", "", []string{"end", "past", "end", "past", "hint", "left"}, []string{"ok", "3", "none", "3", "none", "0"}},
		{"011/012", "sss/nnn", []string{"solved", "hint", "end", "show", "past"}, []string{"yes", "none", "ok", "sew/new", "4"}},
		{"0110", "", []string{"force", "dead", "solved", "hint", "end", "left", "force", "back", "left", "dead"}, []string{"ok", "yes", "no", "none", "none", "2", "no", "ok", "4", "no"}},
		{"00/00", "", []string{"dead", "hint", "end", "lay 0 n", "dead", "lay 1 n", "force"}, []string{"no", "none", "none", "ok", "yes", "no", "no"}},
		{".", "", []string{"show", "digits", "left", "past", "solved", "dead", "hint", "end", "force", "back", "lay 0 e", "lift 0", "flip 0"}, []string{".", ".", "0", "0", "yes", "no", "none", "none", "no", "no", "no", "no", "no"}},
		{"5", "", []string{"show", "digits", "left", "solved", "dead", "hint", "end"}, []string{"#", "5", "1", "no", "yes", "none", "none"}},
		{"12../3456", "", []string{"hint", "lay 3 w", "hint", "lift 2", "past", "lift 2", "end", "solved", "past"}, []string{"lay 3 w", "ok", "lay 0 e", "ok", "2", "no", "ok", "yes", "5"}},
		{"1234/..56", "", []string{"hint", "force", "show", "solved", "back", "left", "back"}, []string{"lay 4 e", "ok", "ew##/..##", "no", "ok", "6", "no"}},
		{"01/23", "", []string{"lay 0 e", "force", "flip 4", "show", "flip 4", "flip 5", "back", "back", "back", "back", "show"}, []string{"ok", "ok", "ok", "ss/nn", "ok", "no", "ok", "ok", "ok", "ok", "##/##"}},
	} {
		said, answers := impl.BookSay(drawnBook(c.text, c.laid), c.lines)
		if !slices.Equal(answers, c.answers) || !impl.BookValid(said) {
			t.Errorf("%v: %q", c, answers)
		}
	}
}
