package tests

import (
	"math/rand"
	"slices"
	"strconv"
	"strings"
	"sync"
	"testing"

	"loop.example/dominotilings/impl"
)

// shelf is a valid book with all solutions of its puzzle in their order.
type shelf struct {
	book      impl.Book
	solutions [][]int
}

func bookOf(p puzzle, past ...[]int) impl.Book {
	return impl.Book{Field: p.r, Digits: p.digits, Laid: p.laid, Past: past}
}

// drawnBook reads a book from the letters that PuzzleText and LaidText have.
func drawnBook(text string, laid string, past ...string) impl.Book {
	b := bookOf(drawnPuzzle(text, laid))
	for _, before := range past {
		b.Past = append(b.Past, drawnPuzzle(text, before).laid)
	}
	return b
}

func puzzleIn(b impl.Book) puzzle {
	return puzzle{b.Field, b.Digits, b.Laid}
}

// sameBook takes nil and empty lists for the same, as the document does.
func sameBook(a impl.Book, b impl.Book) bool {
	return sameRegion(a.Field, b.Field) && slices.Equal(a.Digits, b.Digits) && slices.Equal(a.Laid, b.Laid) && sameLists(a.Past, b.Past)
}

func noBook(b impl.Book) bool {
	return sameBook(b, impl.Book{})
}

// toldLift takes the domino on a cell away.
func toldLift(p puzzle, cell int) ([]int, bool) {
	if cell < 0 || cell >= len(p.laid) || p.laid[cell] == impl.ToNone {
		return nil, false
	}
	here, laid := placeOf(p.r, cell), make([]int, len(p.laid))
	for d := range dominoesOf(p.r, p.laid) {
		if d[0] != here && d[1] != here {
			put(p.r, laid, d)
		}
	}
	return laid, true
}

// toldLaid returns what is laid in a valid book behind a deed, and whether the deed can be done.
func toldLaid(b impl.Book, d impl.Deed) ([]int, bool) {
	p := puzzleIn(b)
	switch d {
	case impl.Deed{Kind: 0, Spot: d.Spot, Way: d.Way}:
		if !mayLay(field{p.r, p.laid}, d.Spot, d.Way) {
			return nil, false
		}
		further := p.further(d.Spot, d.Way)
		return further.laid, toldFair(further)
	case impl.Deed{Kind: 1, Spot: d.Spot}:
		return toldLift(p, d.Spot)
	case impl.Deed{Kind: 2, Spot: d.Spot}:
		laid, done := toldFlip(p.r, p.laid, dominoesOf(p.r, p.laid), d.Spot)
		return laid, done && toldFair(p.with(laid))
	case impl.Deed{Kind: 3}:
		_, some := toldForceOne(p)
		return toldForceAll(p).laid, some
	case impl.Deed{Kind: 4}:
		if len(b.Past) > 0 {
			return b.Past[len(b.Past)-1], true
		}
	}
	return nil, false
}

// toldDo is BookDo for a valid book.
func toldDo(b impl.Book, d impl.Deed) (impl.Book, bool) {
	laid, ok := toldLaid(b, d)
	if !ok {
		return b, false
	}
	past := append(slices.Clone(b.Past), b.Laid)
	if d.Kind == 4 {
		past = b.Past[:len(b.Past)-1]
	}
	return bookOf(puzzleIn(b).with(laid), past[max(0, len(past)-20):]...), true
}

// toldDeeds is BookRun for a valid book and any number of deeds.
func toldDeeds(b impl.Book, list []impl.Deed) (impl.Book, int) {
	many := 0
	for _, d := range list {
		next, done := toldDo(b, d)
		b = next
		if done {
			many++
		}
	}
	return b, many
}

// toldEnds is EndDeeds: it compares both sets of dominoes.
func toldEnds(s shelf) []impl.Deed {
	if len(s.solutions) == 0 {
		return nil
	}
	var list []impl.Deed
	r, solution := s.book.Field, s.solutions[0]
	has, wants := dominoesOf(r, s.book.Laid), dominoesOf(r, solution)
	for _, d := range inOrder(r, s.book.Laid) {
		if !wants[d] {
			list = append(list, impl.Deed{Kind: 1, Spot: indexOf(r, d[0])})
		}
	}
	for _, d := range inOrder(r, solution) {
		if !has[d] {
			list = append(list, impl.Deed{Kind: 0, Spot: indexOf(r, d[0]), Way: solution[indexOf(r, d[0])]})
		}
	}
	return list
}

// toldTexts returns all deeds that have a text, by their texts.
func toldTexts() map[string]impl.Deed {
	all := map[string]impl.Deed{"force": {Kind: 3}, "back": {Kind: 4}}
	for spot := range 100 {
		number := strconv.Itoa(spot)
		all["lift "+number] = impl.Deed{Kind: 1, Spot: spot}
		all["flip "+number] = impl.Deed{Kind: 2, Spot: spot}
		for i, letter := range []string{"e", "n", "w", "s"} {
			all["lay "+number+" "+letter] = impl.Deed{Kind: 0, Spot: spot, Way: i + 1}
		}
	}
	return all
}

// toldHint is the answer to hint.
func toldHint(s shelf) string {
	p := puzzleIn(s.book)
	free := bareCells(p)
	for _, solution := range s.solutions {
		if len(free) > 0 && hasAll(solution, p.laid) {
			cell := firstBare(p, 1)
			if cell < 0 {
				cell = free[0]
			}
			return "lay " + strconv.Itoa(cell) + " " + "?enws"[solution[cell]:solution[cell]+1]
		}
	}
	return "none"
}

func yesOrNo(is bool) string {
	if is {
		return "yes"
	}
	return "no"
}

// toldLetters writes a letter for each cell, row by row from the north.
func toldLetters(r impl.Region, letter func(cell int) byte) string {
	var text strings.Builder
	for y := r.Tall - 1; y >= 0; y-- {
		for x := range r.Wide {
			text.WriteByte(letter(y*r.Wide + x))
		}
		if y > 0 {
			text.WriteByte('/')
		}
	}
	return text.String()
}

// toldAnswer answers a question.
func toldAnswer(s shelf, line string) string {
	p := puzzleIn(s.book)
	switch line {
	case "show":
		return toldLetters(p.r, func(cell int) byte {
			if !p.r.Cells[cell] {
				return '.'
			}
			return "#enws"[p.laid[cell]]
		})
	case "digits":
		return toldLetters(p.r, func(cell int) byte { return ".0123456"[p.digits[cell]+1] })
	case "left":
		return strconv.Itoa(len(bareCells(p)))
	case "past":
		return strconv.Itoa(len(s.book.Past))
	case "solved":
		return yesOrNo(len(bareCells(p)) == 0)
	case "dead":
		return yesOrNo(firstBare(p, 0) >= 0)
	case "hint":
		return toldHint(s)
	}
	return "what"
}

// toldLine is BookLine for a valid book.
func toldLine(s shelf, line string, texts map[string]impl.Deed) (shelf, string) {
	if d, ok := texts[line]; ok {
		next, done := toldDo(s.book, d)
		if done {
			return shelf{next, s.solutions}, "ok"
		}
		return s, "no"
	}
	if line != "end" {
		return s, toldAnswer(s, line)
	}
	ends := toldEnds(s)
	next, _ := toldDeeds(s.book, ends)
	if len(ends) == 0 {
		return s, "none"
	}
	return shelf{next, s.solutions}, "ok"
}

// somePast returns so many fair lists of a task, in any order.
func somePast(k task, many int, dice *rand.Rand) [][]int {
	var past [][]int
	for range many {
		past = append(past, k.lists[dice.Intn(len(k.lists))])
	}
	return past
}

var shelfStore struct {
	once sync.Once
	list []shelf
}

// shelves returns valid books with every number of lists in the past that matters, some of them with a past that ends in the list that is laid, the same ones each time.
func shelves(t *testing.T) []shelf {
	t.Helper()
	shelfStore.once.Do(func() {
		dice := rand.New(rand.NewSource(12))
		many := []int{0, 1, 20, 0, 2, 19, 7}
		for i, k := range tasks(t) {
			for j, laid := range k.lists {
				// Most lists are those of small regions.
				if len(k.r.Cells) < 7 && (i+j)%16 > 0 || (i+j)%3 > 0 {
					continue
				}
				b := bookOf(k.with(laid), somePast(k, many[(i+j/3)%len(many)], dice)...)
				if last := len(b.Past) - 1; last >= 0 && j%2 == 0 {
					b.Past[last] = laid
				}
				shelfStore.list = append(shelfStore.list, shelf{b, k.solutions})
			}
		}
	})
	return shelfStore.list
}

// wrongPasts returns lists that are not fair on the puzzle 011/012.
func wrongPasts() [][]int {
	return [][]int{
		nil, {0}, {0, 0, 0, 0, 0}, {0, 0, 0, 0, 0, 0, 0}, make([]int, 36), {1, 3, 0, 0, 0}, {1, 3, 0, 0, 0, 0, 0},
		drawnList("ews/ewn"), drawnList("ew#/ew#"),
		{1, 0, 0, 0, 0, 0}, {0, 3, 0, 0, 0, 0}, {1, 1, 0, 0, 0, 0}, {0, 0, 1, 0, 0, 0}, {4, 0, 0, 0, 0, 0}, {5, 0, 0, 0, 0, 0}, {-1, 0, 0, 0, 0, 0}, {-1, -1, -1, -1, -1, -1},
		{2, 0, 0, 0, 0, 0}, {1 << 32, 3, 0, 0, 0, 0},
	}
}

// wrongBooks returns books with a puzzle that is not valid, with dominoes that are not right or not fair, or with a past that is too long or has a list that is not right or not fair.
func wrongBooks(t *testing.T) []impl.Book {
	t.Helper()
	list := []impl.Book{{}, {Past: [][]int{nil}}}
	for _, p := range append(wrongPuzzles(), unfairPuzzles(t)...) {
		list = append(list, bookOf(p), bookOf(p, p.laid), bookOf(p, make([]int, len(p.r.Cells))))
	}
	for _, laid := range []string{"", "sew/new", "###/ew#"} {
		p := drawnPuzzle("011/012", laid)
		bare := make([]int, 6)
		for _, wrong := range wrongPasts() {
			list = append(list, bookOf(p.with(wrong)), bookOf(p.with(wrong), bare), bookOf(p, wrong), bookOf(p, wrong, bare), bookOf(p, bare, wrong), bookOf(p, bare, wrong, p.laid))
			full := slices.Repeat([][]int{bare}, 20)
			full[19] = wrong
			other := slices.Clone(full)
			slices.Reverse(other)
			list = append(list, bookOf(p, full...), bookOf(p, other...))
		}
		for _, many := range []int{21, 22, 40, 1000} {
			list = append(list, bookOf(p, slices.Repeat([][]int{bare}, many)...), bookOf(p, slices.Repeat([][]int{p.laid}, many)...))
		}
	}
	p := drawnPuzzle("..", "")
	return append(list, bookOf(p, []int{1, 3}), bookOf(p, []int{}), bookOf(p, slices.Repeat([][]int{{0, 0}}, 21)...))
}

// oddDeeds returns deeds of other kinds, with places and directions that are not there, and with what is not named for their kind.
func oddDeeds() []impl.Deed {
	var list []impl.Deed
	for _, far := range append(farNumbers(), -3, -2, 5, 6, 8, 99, 100, 255, 256) {
		list = append(list, impl.Deed{Kind: far}, impl.Deed{Kind: far, Way: 1}, impl.Deed{Kind: far, Spot: far, Way: far})
	}
	for _, far := range append(farNumbers(), -2, 99, 100, 101, 256, 1<<32+1) {
		list = append(list, impl.Deed{Spot: far, Way: 1}, impl.Deed{Spot: far, Way: far}, impl.Deed{Kind: 1, Spot: far}, impl.Deed{Kind: 2, Spot: far})
		list = append(list, impl.Deed{Way: far}, impl.Deed{Spot: 3, Way: far})
	}
	for _, way := range append(farNumbers(), 1, 2, 3, 4, 5, 6, 256) {
		for kind := 1; kind <= 4; kind++ {
			list = append(list, impl.Deed{Kind: kind, Way: way}, impl.Deed{Kind: kind, Spot: 5, Way: way})
		}
		list = append(list, impl.Deed{Kind: 3, Spot: way}, impl.Deed{Kind: 4, Spot: way}, impl.Deed{Way: way + 5})
	}
	return list
}

// fieldDeeds returns all deeds for the cells and corners of a field, and those a little beyond it.
func fieldDeeds(r impl.Region) []impl.Deed {
	list := []impl.Deed{{Kind: 3}, {Kind: 4}}
	for cell := -1; cell <= len(r.Cells); cell++ {
		for way := -1; way <= 5; way++ {
			list = append(list, impl.Deed{Kind: 0, Spot: cell, Way: way})
		}
		list = append(list, impl.Deed{Kind: 1, Spot: cell}, impl.Deed{Kind: 1, Spot: cell, Way: 1 + (cell+4)%4})
	}
	for corner := -1; corner <= cornersOf(r); corner++ {
		list = append(list, impl.Deed{Kind: 2, Spot: corner}, impl.Deed{Kind: 2, Spot: corner, Way: 1 + (corner+4)%4})
	}
	return list
}

// someDeeds returns deeds of which many can be done.
func someDeeds(r impl.Region, dice *rand.Rand, many int) []impl.Deed {
	var list []impl.Deed
	odd, places := oddDeeds(), spots(r)
	for range many {
		d := impl.Deed{Kind: 3 + dice.Intn(2)}
		switch kind := dice.Intn(16); {
		case kind == 0:
			d = odd[dice.Intn(len(odd))]
		case kind < 4:
			d = impl.Deed{Kind: 1, Spot: dice.Intn(len(r.Cells))}
		case kind < 6:
			d = impl.Deed{Kind: 2, Spot: dice.Intn(cornersOf(r))}
		case kind < 13 && len(places) > 0:
			laid, place := make([]int, len(r.Cells)), places[dice.Intn(len(places))]
			put(r, laid, place)
			cell := indexOf(r, place[dice.Intn(2)])
			d = impl.Deed{Kind: 0, Spot: cell, Way: laid[cell]}
		}
		list = append(list, d)
	}
	return list
}

// busyDeeds returns deeds of which most can be done, one after the other.
func busyDeeds(b impl.Book, dice *rand.Rand, many int) []impl.Deed {
	var list []impl.Deed
	for range many {
		var d impl.Deed
		for range 8 {
			d = someDeeds(b.Field, dice, 1)[0]
			next, done := toldDo(b, d)
			b = next
			if done {
				break
			}
		}
		list = append(list, d)
	}
	return list
}

// withTexts keeps the deeds that have a text.
func withTexts(list []impl.Deed) []impl.Deed {
	var kept []impl.Deed
	for _, d := range list {
		if _, ok := textOf(d); ok {
			kept = append(kept, d)
		}
	}
	return kept
}

// textOf finds the text of a deed among all texts.
func textOf(d impl.Deed) (string, bool) {
	textStore.once.Do(func() {
		textStore.texts = map[impl.Deed]string{}
		for text, other := range toldTexts() {
			textStore.texts[other] = text
		}
	})
	text, ok := textStore.texts[d]
	return text, ok
}

var textStore struct {
	once  sync.Once
	texts map[impl.Deed]string
}

// questions are all lines that change nothing in any book.
func questions() []string {
	return []string{"show", "digits", "left", "past", "solved", "dead", "hint"}
}

// oddLines are lines that are no deed and no question.
func oddLines() []string {
	return []string{
		"", " ", "  ", "\n", "\r", "\t", "\x00", "\xff", "what", "ok", "no", "none", "yes", "end ", " end", "END", "End", "end\n", "end 0", "ends", "en", "show ", " show", "Show", "show\r\n", "show 0", "hint\n", "HINT", "hints", "digit", "digits ",
		"left 6", "lef", "past 1", "solved?", "dead\x00", "dead end", "lay", "lay 0", "lay 0 ", "lay 0 x", "lay e 0", "lay 00 e", "lay 0 e ", "lay 0  e", "lay  0 e", " lay 0 e", "lay 0 e\n", "Lay 0 e", "lay 0 E", "lay +0 e", "lay -0 e", "lay 100 e",
		"lift", "lift ", "lift 0 e", "lift 01", "lift x", "flip", "flip -1", "flip 6 ", "force 0", "force ", " force", "FORCE", "back 1", "back\n", "backs", "bac", "lay 0 e\nback", "show\nshow", "über", "lay ٣ e", "lay 0 ｅ",
	}
}
