package tests

import (
	"reflect"
	"slices"
	"strings"
	"testing"

	"loop.example/dominotilings/impl"
)

// spoken has all that functions of the chapter take: a book, deeds and lines.
type spoken struct {
	book  impl.Book
	list  []impl.Deed
	lines []string
}

// bookMakers are all functions of the chapter that return a book, also where they return the book that they are given.
func bookMakers() map[string]func(s spoken) impl.Book {
	all := map[string]func(s spoken) impl.Book{
		"BookNew": func(s spoken) impl.Book { return impl.BookNew(s.book.Field, s.book.Digits) },
		"BookRun": func(s spoken) impl.Book {
			b, _ := impl.BookRun(s.book, s.list)
			return b
		},
		"BookRun of none": func(s spoken) impl.Book {
			b, _ := impl.BookRun(s.book, nil)
			return b
		},
		"BookSay": func(s spoken) impl.Book {
			b, _ := impl.BookSay(s.book, s.lines)
			return b
		},
		"BookSay of nothing": func(s spoken) impl.Book {
			b, _ := impl.BookSay(s.book, nil)
			return b
		},
	}
	for _, d := range []impl.Deed{{Way: 1}, {Way: 2}, {Spot: 5, Way: 4}, {Kind: 1}, {Kind: 1, Spot: 1}, {Kind: 2, Spot: 4}, {Kind: 2, Spot: 6}, {Kind: 3}, {Kind: 4}, {Kind: 5}, {Kind: 4, Spot: 1}, {Spot: -1, Way: -1}} {
		all["BookDo "+impl.DeedText(d)+string(rune('0'+d.Kind))] = func(s spoken) impl.Book {
			b, _ := impl.BookDo(s.book, d)
			return b
		}
	}
	for _, line := range append(questions(), "end", "force", "back", "lay 0 e", "lay 0 n", "lift 0", "lift 1", "flip 4", "flip 6", "what", "") {
		all["BookLine "+line] = func(s spoken) impl.Book {
			b, _ := impl.BookLine(s.book, line)
			return b
		}
	}
	return all
}

// deedMakers are all functions of the chapter that return deeds.
func deedMakers() map[string]func(s spoken) []impl.Deed {
	return map[string]func(s spoken) []impl.Deed{
		"EndDeeds": func(s spoken) []impl.Deed { return impl.EndDeeds(s.book) },
		"ReadJournal": func(s spoken) []impl.Deed {
			list, _ := impl.ReadJournal(impl.JournalText(s.list) + strings.Join(s.lines, "\n"))
			return list
		},
	}
}

// bookAnswers calls all functions of the chapter that return neither a book nor deeds, and keeps what they return.
func bookAnswers(s spoken) []any {
	_, many := impl.BookRun(s.book, s.list)
	_, bytes := impl.ReadJournal(strings.Join(s.lines, "\n"))
	_, answers := impl.BookSay(s.book, s.lines)
	all := []any{impl.BookValid(s.book), impl.CellsLeft(s.book), impl.BookSolved(s.book), impl.JournalText(s.list), many, bytes, strings.Join(answers, "\n"), len(answers)}
	for _, d := range s.list {
		_, ok := impl.BookDo(s.book, d)
		read, known := impl.ReadDeed(impl.DeedText(d))
		all = append(all, ok, impl.DeedText(d), read, known)
	}
	for _, line := range s.lines {
		_, answer := impl.BookLine(s.book, line)
		all = append(all, answer)
	}
	return all
}

// listsIn returns all memory of numbers that a book has, also behind its past.
func listsIn(b impl.Book) [][]int {
	return append([][]int{b.Digits, b.Laid}, b.Past[:cap(b.Past)]...)
}

// roomyBook returns the book with spare capacity behind all that has some; behind its past there are lists, too.
func roomyBook(b impl.Book) impl.Book {
	copied := impl.Book{Field: roomy(b.Field), Digits: roomyList(b.Digits), Laid: roomyList(b.Laid)}
	for _, laid := range b.Past {
		copied.Past = append(copied.Past, roomyList(laid))
	}
	behind := append(copied.Past, []int{1, 3, 0}, make([]int, 4, 8))
	copied.Past = behind[:len(b.Past)]
	return copied
}

func roomySpoken(s spoken) spoken {
	list := append(make([]impl.Deed, 0, len(s.list)+4), s.list...)
	lines := append(make([]string, 0, len(s.lines)+4), s.lines...)
	return spoken{roomyBook(s.book), list, lines}
}

// memory is a copy of all memory that a book has, or all arguments.
type memory struct {
	cells   []bool
	numbers [][]int
	deeds   []impl.Deed
	lines   []string
}

func memoryOf(s spoken) memory {
	return memory{whole(s.book.Field), copyLists(listsIn(s.book)), slices.Clone(s.list[:cap(s.list)]), slices.Clone(s.lines[:cap(s.lines)])}
}

func sameMemory(a memory, b memory) bool {
	return slices.Equal(a.cells, b.cells) && sameLists(a.numbers, b.numbers) && slices.Equal(a.deeds, b.deeds) && slices.Equal(a.lines, b.lines)
}

func memoryOfBook(b impl.Book) memory {
	return memoryOf(spoken{book: b})
}

// spoilBook writes into all memory that a book has.
func spoilBook(b impl.Book) {
	invert(b.Field)
	for _, list := range listsIn(b) {
		scribble(list)
	}
	behind := b.Past[:cap(b.Past)]
	for i := range behind {
		behind[i] = []int{-9}
	}
}

// spoilSpoken writes into all memory that arguments have.
func spoilSpoken(s spoken) {
	spoilBook(s.book)
	list, lines := s.list[:cap(s.list)], s.lines[:cap(s.lines)]
	for i := range list {
		list[i] = impl.Deed{Kind: 1, Spot: 77}
	}
	for i := range lines {
		lines[i] = "spoilt"
	}
}

// memorySpoken returns arguments for which each function has a result, and some for which it has none.
func memorySpoken(t *testing.T) []spoken {
	t.Helper()
	list := []impl.Deed{{Way: 1}, {Kind: 3}, {Kind: 1}, {Kind: 4}, {Kind: 2, Spot: 6}, {Kind: 9}}
	lines := []string{"lay 0 n", "left", "end", "back", "show", "flip 6", "what", "hint"}
	back := slices.Repeat([]impl.Deed{{Kind: 4}}, 7)
	var all []spoken
	for i, s := range shelves(t) {
		if i%6 == 0 {
			all = append(all, spoken{s.book, list, lines})
		}
	}
	for i, b := range wrongBooks(t) {
		if i%5 == 0 {
			all = append(all, spoken{b, list, lines})
		}
	}
	for _, laid := range []string{"", "sew/new", "sss/nnn", "###/ew#", "##s/##n"} {
		for _, past := range [][]string{nil, {""}, {laid}, {"sew/new", laid, ""}, slices.Repeat([]string{laid}, 19), slices.Repeat([]string{"sss/nnn"}, 20)} {
			b := drawnBook("011/012", laid, past...)
			all = append(all, spoken{b, list, lines}, spoken{b, back, slices.Repeat([]string{"back", "end"}, 6)}, spoken{b, slices.Repeat(list, 7), slices.Repeat(lines, 6)}, spoken{book: b})
			all = append(all, spoken{b, []impl.Deed{{Way: 2}, {Spot: 99, Way: 4}, {Kind: 1, Spot: 1}, {Kind: 4}}, []string{"lift 0", "lift 1"}})
		}
	}
	return append(all, spoken{drawnBook(".", "", ""), list, lines}, spoken{drawnBook("0110", "ew##"), list, lines}, spoken{drawnBook("012345", ""), list, lines})
}

func TestBooksAreNotWrittenTo(t *testing.T) {
	for _, given := range memorySpoken(t) {
		s := roomySpoken(given)
		before := memoryOf(s)
		for name, maker := range bookMakers() {
			maker(s)
			if !sameMemory(memoryOf(s), before) {
				t.Fatal(name, "writes into", given)
			}
		}
		for name, maker := range deedMakers() {
			maker(s)
			if !sameMemory(memoryOf(s), before) {
				t.Fatal(name, "writes into", given)
			}
		}
		bookAnswers(s)
		if !sameMemory(memoryOf(s), before) {
			t.Fatal("a question writes into", given)
		}
	}
}

// checkBookApart writes into the lists of one book, one after the other: the others stay as they are.
func checkBookApart(t *testing.T, name string, b impl.Book) {
	t.Helper()
	all := listsIn(b)
	for i, list := range all {
		others := slices.Delete(slices.Clone(all), i, i+1)
		kept := copyLists(others)
		scribble(list)
		if !sameLists(copyLists(others), kept) {
			t.Fatal(name, "shares memory of lists", b, i)
		}
	}
}

func TestBooksShareNoMemory(t *testing.T) {
	for _, given := range memorySpoken(t) {
		for name, maker := range bookMakers() {
			s := roomySpoken(given)
			before := memoryOf(s)
			first, second := maker(s), maker(s)
			kept := memoryOfBook(first)
			if !sameBook(first, second) {
				t.Fatal(name, "remembers", given)
			}
			spoilBook(second)
			if !sameMemory(memoryOf(s), before) || !sameMemory(memoryOfBook(first), kept) {
				t.Fatal(name, "shares memory", given)
			}
			spoilSpoken(s)
			if !sameMemory(memoryOfBook(first), kept) {
				t.Fatal(name, "keeps memory of", given)
			}
			checkBookApart(t, name, first)
		}
	}
}

// TestBooksOfOneListShareNoMemory gives books in which the same memory stands several times.
func TestBooksOfOneListShareNoMemory(t *testing.T) {
	for _, text := range []string{"", "sew/new", "###/ew#"} {
		p := drawnPuzzle("011/012", text)
		for _, many := range []int{1, 2, 19, 20} {
			b := bookOf(p, slices.Repeat([][]int{p.laid}, many)...)
			for name, maker := range bookMakers() {
				made := maker(spoken{b, []impl.Deed{{Kind: 4}, {Way: 2}}, []string{"back", "end", "back"}})
				if !impl.BookValid(made) {
					t.Fatal(name, made)
				}
				checkBookApart(t, name, made)
			}
		}
	}
	// Four zeros are numbers and dominoes alike, and may stand in the same memory.
	numbers := []int{0, 0, 0, 0}
	b := impl.Book{Field: filled(4, 1, 4), Digits: numbers, Laid: numbers, Past: [][]int{numbers, numbers}}
	for name, maker := range bookMakers() {
		checkBookApart(t, name, maker(spoken{b, []impl.Deed{{Kind: 4}}, []string{"lay 0 e", "back"}}))
	}
}

// TestFurtherDeedsLeaveBooksAlone goes on from a result: books of before stay as they are.
func TestFurtherDeedsLeaveBooksAlone(t *testing.T) {
	b := drawnBook("011/012", "")
	var books []impl.Book
	var kept []memory
	for i := range 60 {
		d := []impl.Deed{{Way: 2}, {Spot: 1, Way: 1}, {Kind: 3}, {Kind: 2, Spot: 6}, {Kind: 4}, {Kind: 1}, {Kind: 1, Spot: 1}, {Kind: 1, Spot: 2}, {Kind: 1, Spot: 4}}[i%9]
		books, kept = append(books, b), append(kept, memoryOfBook(b))
		next, _ := impl.BookDo(b, d)
		b = next
	}
	for i := range books {
		if !sameMemory(memoryOfBook(books[i]), kept[i]) {
			t.Fatal(i, books[i])
		}
	}
	for i := range books {
		spoilBook(books[i])
		for j := i + 1; j < len(books); j++ {
			if !sameMemory(memoryOfBook(books[j]), kept[j]) {
				t.Fatal("two results share memory", i, j)
			}
		}
	}
}

func TestDeedsShareNoMemory(t *testing.T) {
	for _, given := range memorySpoken(t) {
		for name, maker := range deedMakers() {
			s := roomySpoken(given)
			first, second := maker(s), maker(s)
			kept := slices.Clone(first[:cap(first)])
			for i := range second[:cap(second)] {
				second[:cap(second)][i] = impl.Deed{Kind: 77}
			}
			spoilSpoken(s)
			if !slices.Equal(first[:cap(first)], kept) || !slices.Equal(maker(roomySpoken(given)), first) {
				t.Fatal(name, "shares memory or remembers", given)
			}
		}
		s := roomySpoken(given)
		_, first := impl.BookSay(s.book, s.lines)
		_, second := impl.BookSay(s.book, s.lines)
		kept := slices.Clone(first)
		for i := range second[:cap(second)] {
			second[:cap(second)][i] = "spoilt"
		}
		if !slices.Equal(first, kept) || !slices.Equal(s.lines, given.lines) {
			t.Fatal("answers share memory", given)
		}
	}
}

func TestBooksAreTheSameEachTime(t *testing.T) {
	for _, s := range memorySpoken(t) {
		answers := bookAnswers(s)
		for range 3 {
			if !slices.Equal(bookAnswers(s), answers) {
				t.Fatal(s)
			}
		}
	}
}

func TestNothingPanicsWithBooks(t *testing.T) {
	var books []impl.Book
	for _, s := range memorySpoken(t) {
		books = append(books, s.book)
	}
	for _, p := range memoryPuzzles(t) {
		books = append(books, bookOf(p), bookOf(p, p.digits), bookOf(p, nil, p.laid), bookOf(p.with(nil), p.laid), impl.Book{Field: p.r, Past: [][]int{p.laid}})
	}
	deeds, lines := oddDeeds(), oddLines()
	for i, b := range books {
		for name, maker := range bookMakers() {
			if made := maker(spoken{b, deeds[i%len(deeds):], lines[i%len(lines):]}); !impl.BookValid(made) && !noBook(made) {
				t.Fatal(name, b, made)
			}
		}
		bookAnswers(spoken{b, deeds, lines})
		impl.EndDeeds(b)
	}
}

// TestBooksHaveTheirFields tells that a book and a deed have what the document names, and nothing more.
func TestBooksHaveTheirFields(t *testing.T) {
	for kind, want := range map[reflect.Type]string{
		reflect.TypeFor[impl.Book](): "Field impl.Region Digits []int Laid []int Past [][]int",
		reflect.TypeFor[impl.Deed](): "Kind int Spot int Way int",
	} {
		var names []string
		for i := range kind.NumField() {
			names = append(names, kind.Field(i).Name, kind.Field(i).Type.String())
		}
		if strings.Join(names, " ") != want || reflect.PointerTo(kind).NumMethod() != 0 {
			t.Error(kind, names)
		}
	}
}
