package tests

import (
	"slices"
	"strings"
	"testing"

	"loop.example/dominotilings/impl"
)

func TestP118EveryCellHasANumber(t *testing.T) {
	for _, r := range validRegions() {
		for digit := -2; digit <= 8; digit++ {
			digits := everywhere(r, digit)
			valid := digit >= 0 && digit <= 6 || countCells(r) == 0
			if impl.PuzzleValid(r, digits) != valid || impl.PuzzleValid(r, append(digits, max(digit, 0))) || impl.PuzzleValid(r, append(digits, -1)) || impl.PuzzleValid(r, digits[1:]) {
				t.Fatal(r, digits)
			}
		}
	}
	for _, k := range tasks(t) {
		if !impl.PuzzleValid(k.r, k.digits) {
			t.Fatal(k.puzzle)
		}
	}
	for _, p := range badDigits() {
		if impl.PuzzleValid(p.r, p.digits) {
			t.Error(p)
		}
	}
}

// TestP118AllLists tries every list of the numbers -2 to 7 on every region of the fields of at most four cells.
func TestP118AllLists(t *testing.T) {
	for _, r := range tinyRegions(4) {
		many := 1
		for range r.Cells {
			many *= 10
		}
		for number := range many {
			digits, valid := make([]int, len(r.Cells)), true
			for cell, has := range r.Cells {
				digits[cell] = number%10 - 2
				number /= 10
				digit := digits[cell] >= 0 && digits[cell] <= 6
				valid = valid && (has && digit || !has && digits[cell] == -1)
			}
			if impl.PuzzleValid(r, digits) != valid {
				t.Fatal(r, digits, !valid)
			}
		}
	}
}

func TestP119PairsHaveNoOrder(t *testing.T) {
	seen := map[int][2]int{}
	for a := -3; a <= 10; a++ {
		for b := -3; b <= 10; b++ {
			pair := impl.PairOf(a, b)
			if min(a, b) < 0 || max(a, b) > 6 {
				if pair != -1 {
					t.Error(a, b, pair)
				}
				continue
			}
			both := [2]int{min(a, b), max(a, b)}
			if other, ok := seen[pair]; ok && other != both || pair != toldPair(a, b) || impl.PairOf(b, a) != pair {
				t.Error(a, b, pair)
			}
			seen[pair] = both
		}
	}
	if len(seen) != 28 {
		t.Error(len(seen), "pairs")
	}
}

func TestP119PairsThatAreKnown(t *testing.T) {
	for both, pair := range map[[2]int]int{{0, 0}: 0, {0, 1}: 1, {6, 0}: 6, {1, 1}: 8, {2, 1}: 9, {5, 2}: 19, {3, 3}: 24, {5, 6}: 41, {6, 6}: 48, {7, 7}: -1, {-1, -1}: -1, {-1, 7}: -1} {
		if impl.PairOf(both[0], both[1]) != pair {
			t.Error(both, impl.PairOf(both[0], both[1]))
		}
	}
	for _, far := range append(farNumbers(), -2, 7, 8) {
		for _, near := range []int{0, 3, 6, far} {
			if impl.PairOf(far, near) != -1 || impl.PairOf(near, far) != -1 {
				t.Error(far, near)
			}
		}
	}
}

// checkPairs holds PairsOf and FairOk against what is told.
func checkPairs(t *testing.T, p puzzle) {
	t.Helper()
	pairs := impl.PairsOf(p.r, p.digits, p.laid)
	sorted := slices.Sorted(slices.Values(pairs))
	fair := len(slices.Compact(sorted)) == len(pairs)
	if !slices.Equal(pairs, toldPairs(p)) || len(pairs) != impl.LaidMany(p.r, p.laid) || fair != toldFair(p) || impl.FairOk(p.r, p.digits, p.laid) != fair {
		t.Fatal(p, pairs, fair)
	}
}

func TestP120EveryDominoHasAPair(t *testing.T) {
	fair := map[bool]int{}
	for _, k := range tasks(t) {
		for _, laid := range k.lists {
			checkPairs(t, k.with(laid))
		}
		for i, laid := range impl.TilingsAll(k.r) {
			if i%5 == 0 {
				checkPairs(t, k.with(laid))
				fair[toldFair(k.with(laid))]++
			}
		}
	}
	if fair[true] < 100 || fair[false] < 100 {
		t.Error("all are fair, or none is", fair)
	}
	for _, p := range unfairPuzzles(t) {
		if !impl.LaidOk(p.r, p.laid) || toldFair(p) {
			t.Error("it is fair", p)
		}
		checkPairs(t, p)
	}
}

// TestP120AllListsOfSmallPuzzles tries all right lists, fair or not.
func TestP120AllListsOfSmallPuzzles(t *testing.T) {
	for _, k := range tinyTasks() {
		for _, laid := range allLaid(k.r) {
			checkPairs(t, k.with(laid))
		}
	}
}

func TestP120PairsThatAreKnown(t *testing.T) {
	for _, c := range []struct {
		text  string
		laid  string
		pairs []int
		fair  bool
	}{
		{"011/012", "sss/nnn", []int{0, 8, 9}, true},
		{"011/012", "ews/ewn", []int{1, 9, 1}, false},
		{"011/012", "sew/new", []int{0, 9, 8}, true},
		{"011/012", "###/#ew", []int{9}, true},
		{"011/012", "", nil, true},
		{"...", "...", nil, true},
		{"66", "ew", []int{48}, true},
		{"6/6/.", "s/n/.", []int{48}, true},
		{"65.56", "ew.ew", []int{41, 41}, false},
		{"00/00", "ew/ew", []int{0, 0}, false},
		{"00/0.", "ew/#.", []int{0}, true},
	} {
		p := drawnPuzzle(c.text, c.laid)
		if c.laid == "..." {
			p.laid = make([]int, 3)
		}
		pairs := impl.PairsOf(p.r, p.digits, p.laid)
		if !slices.Equal(pairs, c.pairs) || impl.FairOk(p.r, p.digits, p.laid) != c.fair {
			t.Error(c, pairs)
		}
	}
}

func TestP120P121OtherArguments(t *testing.T) {
	for _, p := range wrongPuzzles() {
		if pairs := impl.PairsOf(p.r, p.digits, p.laid); len(pairs) != 0 || impl.FairOk(p.r, p.digits, p.laid) || impl.SolvedOk(p.r, p.digits, p.laid) {
			t.Error(p, pairs)
		}
	}
}

func TestP121FewerDominoesAreFairToo(t *testing.T) {
	eachFair(t, func(k task, p puzzle) {
		if !impl.FairOk(p.r, p.digits, p.laid) || impl.LaidMany(p.r, p.laid) > 28 {
			t.Fatal(p)
		}
		for cell, way := range p.laid {
			fewer, done := impl.LiftOne(p.r, p.laid, cell)
			if done != (way != impl.ToNone) || !impl.FairOk(p.r, p.digits, fewer) {
				t.Fatal(p, cell)
			}
		}
	})
	for _, p := range unfairPuzzles(t) {
		if impl.FairOk(p.r, p.digits, p.laid) {
			t.Error(p)
		}
	}
}

func TestP129TextsOfPuzzlesAreRead(t *testing.T) {
	for _, k := range tasks(t) {
		text := impl.PuzzleText(k.r, k.digits)
		r, digits, ok := impl.ReadPuzzle(text)
		if !ok || !sameRegion(r, k.r) || !slices.Equal(digits, k.digits) || len(text) != (r.Wide+1)*r.Tall-1 {
			t.Fatal(k.puzzle, text)
		}
		for y, row := range strings.Split(text, "/") {
			for x := range r.Wide {
				letter := ".0123456"[k.at(place{x, r.Tall - 1 - y})+1]
				if row[x] != letter {
					t.Fatal(k.puzzle, text)
				}
			}
		}
	}
	for _, p := range badDigits() {
		if text := impl.PuzzleText(p.r, p.digits); text != "" {
			t.Error(p, text)
		}
	}
}

func TestP129TextsThatAreKnown(t *testing.T) {
	for _, text := range []string{".", "...", "../..", "0", "6", "6./.0", "..0../.....", "123456/0.....", "....../....../....../....../....../......", "0/1/2/3/4/5", "012/3.4/560", "66.", ".66"} {
		p := drawnPuzzle(text, "")
		r, digits, ok := impl.ReadPuzzle(text)
		if !ok || !sameRegion(r, p.r) || !slices.Equal(digits, p.digits) || impl.PuzzleText(p.r, p.digits) != text {
			t.Error(text, r, digits, ok)
		}
	}
}

// checkReadPuzzle reports whether the text was read.
func checkReadPuzzle(t *testing.T, text string) bool {
	t.Helper()
	r, digits, ok := impl.ReadPuzzle(text)
	if !ok && (!nothing(r) || len(digits) != 0) || ok && (!impl.PuzzleValid(r, digits) || impl.PuzzleText(r, digits) != text) {
		t.Fatalf("%q: %v %v %v", text, r, digits, ok)
	}
	for _, longer := range []string{text + "/", "/" + text, text + "\n", text + " ", " " + text, text + "\x00"} {
		if r, digits, again := impl.ReadPuzzle(longer); ok && (again || !nothing(r) || len(digits) != 0) {
			t.Fatalf("%q: %v %v", longer, r, digits)
		}
	}
	return ok
}

func TestP130ReadTextsOfPuzzlesAreCanonical(t *testing.T) {
	read := 0
	for _, text := range shortTexts("06.7/x-", 6) {
		if checkReadPuzzle(t, text) {
			read++
		}
	}
	// A text of 6 bytes has a letter for each cell, and a slash fewer than rows; and each cell has a point or one of two numbers.
	want := 0
	for _, r := range smallRegions() {
		if (r.Wide+1)*r.Tall-1 <= 6 {
			want += 1 << countCells(r)
		}
	}
	if read != want {
		t.Error(read, "texts are read, not", want)
	}
	for _, k := range tasks(t) {
		if !checkReadPuzzle(t, impl.PuzzleText(k.r, k.digits)) {
			t.Fatal(k.puzzle)
		}
	}
}

func TestP130AllBytes(t *testing.T) {
	for letter := range 256 {
		text := "0" + string([]byte{byte(letter)}) + "6"
		// With a slash there are two rows.
		right := letter >= '.' && letter <= '6'
		if checkReadPuzzle(t, text) != right {
			t.Errorf("%q", text)
		}
	}
}

func TestP130OtherTextsOfPuzzlesAreRefused(t *testing.T) {
	row := strings.Repeat("01", 3)
	for _, text := range []string{
		"", "/", "//", "0/", "/0", "./", "/.", "0//0", "00/0", "0/00", "00/00/0", "0/0/00", "..//..", "00/00/",
		"7", "8", "9", "-1", "0-1", "+1", "10 ", " 0", "0 1", "0,1", "#", "##", "a", "e", "\x00", "\xff", "0\n", "\n0", "\r", "é", "٣", "０", "²", "07/00", "00/70", ":", ",", "..7", "7..",
		"0000000", ".......", "0/0/0/0/0/0/0", "./././././././", strings.Repeat("./", 6) + ".",
		strings.Repeat(row+"/", 4) + "0.....", strings.Repeat(row+"/", 5) + row, strings.Repeat("01234/", 4) + "01234",
		strings.Repeat("/", 1000), strings.Repeat("0", 1000), strings.Repeat(row+"/", 1000),
	} {
		r, digits, ok := impl.ReadPuzzle(text)
		if ok || !nothing(r) || len(digits) != 0 {
			t.Errorf("%q: %v %v", text, r, digits)
		}
	}
	for _, text := range []string{strings.Repeat(row+"/", 3) + row, strings.Repeat(row+"/", 3) + row + "/....../......", strings.Repeat("65432/", 4) + "0123."} {
		if r, digits, ok := impl.ReadPuzzle(text); !ok || impl.CellsMany(r) != impl.MaxCells || len(digits) != len(r.Cells) {
			t.Errorf("%q: %v %v %v", text, r, digits, ok)
		}
	}
}

func TestPuzzleConstants(t *testing.T) {
	if impl.MaxDigit != 6 {
		t.Error(impl.MaxDigit)
	}
}
