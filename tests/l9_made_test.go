package tests

import (
	"slices"
	"testing"

	"loop.example/dominotilings/impl"
)

// toldMade is MakePuzzle for a tiling and a first pair in 0..27.
func toldMade(f field, from int) []int {
	digits, pairs := slices.Repeat([]int{-1}, len(f.laid)), pairsTold()
	pairs = append(pairs, pairs...)
	for i, d := range inOrder(f.r, f.laid) {
		digits[indexOf(f.r, d[0])], digits[indexOf(f.r, d[1])] = pairs[from+i][0], pairs[from+i][1]
	}
	return digits
}

func checkMade(t *testing.T, f field, from int) {
	t.Helper()
	digits := impl.MakePuzzle(f.r, f.laid, from)
	if !slices.Equal(digits, toldMade(f, from)) || !impl.PuzzleValid(f.r, digits) || !impl.SolvedOk(f.r, digits, f.laid) {
		t.Fatal(f, from, digits)
	}
}

func TestP38MadePuzzlesAreSolved(t *testing.T) {
	for i, f := range tiledFields() {
		checkMade(t, f, i%28)
	}
	for i, r := range slices.Concat(someRegions(), twistedRegions(t), holedRegions(t), []impl.Region{filled(4, 6, 24), filled(6, 4, 24), filled(1, 1, 0), filled(2, 1, 2)}) {
		for j, laid := range impl.TilingsAll(r) {
			checkMade(t, field{r, laid}, (i+j)%28)
			if j < 5 {
				for from := range 28 {
					checkMade(t, field{r, laid}, from)
				}
			}
		}
	}
}

func TestP38PuzzlesThatAreKnown(t *testing.T) {
	for _, c := range []struct {
		laid string
		from int
		text string
	}{
		{"sss/nnn", 0, "012/000"},
		{"sss/nnn", 6, "612/011"},
		{"sss/nnn", 26, "660/560"},
		{"sss/nnn", 27, "601/600"},
		{"ews/ewn", 0, "021/000"},
		{"ew", 0, "00"},
		{"ew", 1, "01"},
		{"ew", 6, "06"},
		{"ew", 7, "11"},
		{"ew", 12, "16"},
		{"ew", 13, "22"},
		{"ew", 25, "55"},
		{"ew", 26, "56"},
		{"ew", 27, "66"},
		{"s/n", 3, "3/0"},
		{"ew.ew", 23, "45.46"},
		{".", 5, "."},
		{"..", 27, ".."},
	} {
		laid := drawnList(c.laid)
		wide, tall, letters := readRows(c.laid)
		r := filled(wide, tall, 0)
		for cell, letter := range letters {
			r.Cells[cell] = letter != '.'
		}
		if digits := impl.MakePuzzle(r, laid, c.from); impl.PuzzleText(r, digits) != c.text {
			t.Error(c, digits)
		}
	}
}

func TestP38NoPuzzleForOtherArguments(t *testing.T) {
	box := field{filled(3, 2, 6), drawnList("sss/nnn")}
	for _, far := range append(farNumbers(), -28, 28, 29, 48, 56) {
		if digits := impl.MakePuzzle(box.r, box.laid, far); len(digits) != 0 {
			t.Error(far, digits)
		}
	}
	for _, f := range append(laidFields(), wrongFields()...) {
		if impl.TilingOk(f.r, f.laid) {
			continue
		}
		for _, from := range []int{0, 13, 27} {
			if digits := impl.MakePuzzle(f.r, f.laid, from); len(digits) != 0 {
				t.Fatal(f, from, digits)
			}
		}
	}
}

// someNames returns the numbers as they are, all exchanged, moved on in a circle, and two exchanged.
func someNames() [][]int {
	return [][]int{{0, 1, 2, 3, 4, 5, 6}, {6, 5, 4, 3, 2, 1, 0}, {1, 2, 3, 4, 5, 6, 0}, {6, 0, 1, 2, 3, 4, 5}, {1, 0, 2, 3, 4, 5, 6}, {2, 0, 6, 1, 5, 3, 4}}
}

func TestP39NamesOfNumbersDoNotMatter(t *testing.T) {
	for _, k := range tasks(t) {
		for i, names := range someNames() {
			changed := impl.Relabel(k.r, k.digits, names)
			want := slices.Clone(k.digits)
			for cell, has := range k.r.Cells {
				if has {
					want[cell] = names[k.digits[cell]]
				}
			}
			if !slices.Equal(changed, want) || i == 0 && !slices.Equal(changed, k.digits) {
				t.Fatal(k.puzzle, names, changed)
			}
			if !impl.PuzzleValid(k.r, changed) || !sameLists(impl.SolutionsAll(k.r, changed), k.solutions) {
				t.Fatal(k.puzzle, names, changed)
			}
		}
	}
}

// TestP39AllNames tries every list of seven numbers in 0..6.
func TestP39AllNames(t *testing.T) {
	r, digits := filled(4, 2, 7), []int{4, 1, 0, 5, 6, 3, 2, -1}
	right := 0
	for number := range 7 * 7 * 7 * 7 * 7 * 7 * 7 {
		names, seen := make([]int, 7), 0
		for i := range names {
			names[i] = number % 7
			number /= 7
			seen |= 1 << names[i]
		}
		changed := impl.Relabel(r, digits, names)
		if seen != 127 {
			if len(changed) != 0 {
				t.Fatal(names, changed)
			}
			continue
		}
		right++
		want := []int{names[4], names[1], names[0], names[5], names[6], names[3], names[2], -1}
		if !slices.Equal(changed, want) {
			t.Fatal(names, changed)
		}
	}
	if right != 5040 {
		t.Error(right)
	}
}

func TestP39NothingIsChangedOtherwise(t *testing.T) {
	lists := [][]int{
		nil, {}, {0}, {0, 1, 2, 3, 4, 5}, {1, 2, 3, 4, 5, 6}, {0, 1, 2, 3, 4, 5, 6, 7}, {0, 1, 2, 3, 4, 5, 6, 0}, {0, 1, 2, 3, 4, 5, 6, 6}, {0, 1, 2, 3, 4, 5, 6, -1},
		{1, 2, 3, 4, 5, 6, 7}, {0, 1, 2, 3, 4, 5, 7}, {-1, 0, 1, 2, 3, 4, 5}, {0, 0, 2, 3, 4, 5, 7}, {0, 1, 2, 3, 4, 5, 5}, {0, 0, 1, 2, 3, 4, 5, 6}, make([]int, 7), make([]int, 36),
	}
	for _, far := range farNumbers() {
		lists = append(lists, []int{far, 1, 2, 3, 4, 5, 6}, []int{0, 1, 2, 3, 4, 5, far}, []int{0, 1, 2, 3, 4, 5, 6, far})
	}
	for _, names := range lists {
		for _, text := range []string{"0", ".", "011/012", "0123/456."} {
			p := drawnPuzzle(text, "")
			if changed := impl.Relabel(p.r, p.digits, names); len(changed) != 0 {
				t.Error(text, names, changed)
			}
		}
	}
	for _, p := range badDigits() {
		for _, names := range someNames() {
			if changed := impl.Relabel(p.r, p.digits, names); len(changed) != 0 {
				t.Error(p, names, changed)
			}
		}
	}
}

func TestP39NamesThatAreKnown(t *testing.T) {
	for _, c := range []struct {
		text    string
		names   []int
		changed string
	}{
		{"011/012", []int{3, 2, 1, 0, 4, 5, 6}, "322/321"},
		{"011/012", []int{0, 1, 2, 3, 4, 5, 6}, "011/012"},
		{"0123/456.", []int{6, 5, 4, 3, 2, 1, 0}, "6543/210."},
		{"0123/456.", []int{1, 2, 3, 4, 5, 6, 0}, "1234/560."},
		{"..", []int{1, 2, 3, 4, 5, 6, 0}, ".."},
	} {
		p := drawnPuzzle(c.text, "")
		if changed := impl.Relabel(p.r, p.digits, c.names); impl.PuzzleText(p.r, changed) != c.changed {
			t.Error(c, changed)
		}
	}
}
