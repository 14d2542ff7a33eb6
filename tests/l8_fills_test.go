package tests

import (
	"math/rand"
	"slices"
	"testing"

	"loop.example/dominotilings/impl"
)

func TestP116PiecesCanBeTakenAway(t *testing.T) {
	forms := allForms()
	dice := rand.New(rand.NewSource(5))
	for many := range impl.MaxFill + 1 {
		for range 200 {
			var pieces [][]impl.Cell
			for range many {
				pieces = append(pieces, forms[dice.Intn(len(forms))])
			}
			if !impl.PiecesValid(pieces) || many > 0 && !impl.PiecesValid(pieces[1:]) {
				t.Fatal(pieces)
			}
			for i := range pieces {
				for _, none := range [][]impl.Cell{nil, {}} {
					bad := slices.Clone(pieces)
					bad[i] = none
					if impl.PiecesValid(bad) {
						t.Fatal(bad)
					}
				}
			}
		}
	}
}

func TestP116TooManyPiecesAreNotValid(t *testing.T) {
	for _, p := range allForms()[:200] {
		for _, many := range []int{0, 1, 5, 6, 7, 8, 25, 100} {
			pieces := slices.Repeat([][]impl.Cell{p}, many)
			if impl.PiecesValid(pieces) != (many <= 6) {
				t.Fatal(many, p)
			}
		}
	}
	if impl.PiecesValid(make([][]impl.Cell, 7)) || !impl.PiecesValid([][]impl.Cell{}) {
		t.Error("no pieces")
	}
}

func TestP116BadPiecesAreNotValid(t *testing.T) {
	domino := pieceOf("##")
	for _, p := range badPieces() {
		for _, pieces := range [][][]impl.Cell{{p}, {p, p}, {domino, p}, {p, domino}, {domino, domino, p, domino}, {domino, domino, domino, domino, domino, p}} {
			if impl.PiecesValid(pieces) {
				t.Fatal(pieces)
			}
		}
	}
}

func TestPatchesAreOfAllKinds(t *testing.T) {
	kinds := map[string]int{}
	for _, p := range somePatches() {
		if !isFill(p) {
			t.Fatal("not filled", p)
		}
		count := func(kind string, is bool) {
			if is {
				kinds[kind]++
			}
		}
		count("bare", countCells(p.r) == 0)
		count("with a hole", countHoles(p.r) > 0)
		count("in parts", impl.PartsMany(p.r) > 1)
		count("of as many cells as can be", countCells(p.r) == impl.MaxCells)
		count("with as many pieces as can be", len(p.pieces) == impl.MaxFill)
		count("with the same piece twice", len(p.pieces) > 1 && toldForms(p.pieces[0])[0] == toldForms(p.pieces[1])[0])
	}
	for kind, many := range kinds {
		if many < 10 || len(kinds) != 6 {
			t.Error("too few", kind, kinds)
		}
	}
}

// checkFill holds FillOk against what is told.
func checkFill(t *testing.T, p patch) {
	t.Helper()
	if ok := isFill(p); impl.FillOk(p.r, p.pieces, p.fill) != ok {
		t.Fatal(impl.RegionText(p.r), p.pieces, p.fill, !ok)
	}
}

// eachList calls a function for all lists of so many numbers from -2 to the greatest one.
func eachList(long int, greatest int, check func(list []int)) {
	list := slices.Repeat([]int{-2}, long)
	for {
		check(list)
		i := 0
		for i < long && list[i] == greatest {
			list[i] = -2
			i++
		}
		if i == long {
			return
		}
		list[i]++
	}
}

func TestP117AllListsOfTinyRegions(t *testing.T) {
	for _, r := range tinyRegions(4) {
		for cells := range 5 {
			for _, pieces := range pieceLists(cells) {
				eachList(len(r.Cells), len(pieces), func(fill []int) { checkFill(t, patch{r, pieces, fill}) })
			}
		}
	}
}

func TestP117FilledRegionsHaveTheCellsOfThePieces(t *testing.T) {
	for _, p := range somePatches() {
		many := 0
		for _, piece := range p.pieces {
			many += len(piece)
		}
		if !impl.FillOk(p.r, p.pieces, p.fill) || countCells(p.r) != many {
			t.Fatal(p)
		}
		all := impl.FillsAll(p.r, p.pieces)
		if !slices.ContainsFunc(all, func(fill []int) bool { return slices.Equal(fill, p.fill) }) {
			t.Fatal("not one of all", p)
		}
	}
}

func TestP117ChangedListsAreTold(t *testing.T) {
	dice := rand.New(rand.NewSource(7))
	right := 0
	for _, p := range somePatches() {
		for range 60 {
			q := patch{p.r, p.pieces, slices.Clone(p.fill)}
			i, j := dice.Intn(len(q.fill)), dice.Intn(len(q.fill))
			switch dice.Intn(3) {
			case 0:
				q.fill[i] = dice.Intn(len(p.pieces)+4) - 2
			case 1:
				q.fill[i], q.fill[j] = q.fill[j], q.fill[i]
			case 2:
				// All cells of two pieces, or of a piece and of what does not belong to the region.
				for cell, number := range p.fill {
					if number == p.fill[i] {
						q.fill[cell] = p.fill[j]
					} else if number == p.fill[j] {
						q.fill[cell] = p.fill[i]
					}
				}
			}
			checkFill(t, q)
			if isFill(q) && !slices.Equal(q.fill, p.fill) {
				right++
			}
		}
	}
	if right < 20 {
		t.Error("no list is right when it is changed", right)
	}
}

func TestP117PiecesInAnotherOrderAreTold(t *testing.T) {
	for _, p := range somePatches() {
		for i := range p.pieces {
			pieces := slices.Concat(p.pieces[i:], p.pieces[:i])
			checkFill(t, patch{p.r, pieces, p.fill})
			checkFill(t, patch{p.r, p.pieces[i:], p.fill})
			checkFill(t, patch{p.r, p.pieces[:i], p.fill})
		}
		checkFill(t, patch{p.r, nil, p.fill})
		if len(p.pieces) < impl.MaxFill {
			checkFill(t, patch{p.r, append(slices.Clone(p.pieces), pieceOf("#")), p.fill})
		}
	}
}

func TestP117FillsOfTexts(t *testing.T) {
	for _, p := range []patch{
		drawnPatch("."), drawnPatch("../.."), drawnPatch("....../....../....../....../....../......"),
		drawnPatch("a", "#"), drawnPatch("ab", "#", "#"), drawnPatch("ba", "#", "#"), drawnPatch("a.a/aaa", "##/#./##"),
		drawnPatch("abb/aab", "##/.#", "#./##"), drawnPatch("bba/baa", "##/.#", "#./##"),
		drawnPatch("a.b/aab/.cb", "#./##", "###", "#"), drawnPatch("aaaa/bccd/bccd/eeee", "####", "##", "##/##", "##", "#/#/#/#"),
		drawnPatch("aaab/a.bb", "###/#..", "##/.#"), drawnPatch("a.b/.c./d.e", "#", "#", "#", "#", "#"),
		drawnPatch("abcdef", "#", "#", "#", "#", "#", "#"), drawnPatch(".aa/aab/cab", "##./.##/.#.", "##", "#"),
	} {
		if !impl.FillOk(p.r, p.pieces, p.fill) {
			t.Error(impl.RegionText(p.r), p)
		}
	}
}

func TestP117WrongFillsOfTexts(t *testing.T) {
	for _, p := range []patch{
		// The cells of a piece do not hang together, or by a corner alone.
		drawnPatch("aba", "##", "#"), drawnPatch("ab/ba", "##", "##"), drawnPatch("a.a", "##"), drawnPatch("a./.a", "##"),
		drawnPatch("abba", "##", "##"), drawnPatch("aab/bba/b..", "###", "##/##"),
		// There are as many cells, but of another piece.
		drawnPatch("aaa", "##/#."), drawnPatch("a./aa", "###"), drawnPatch("aa/aa", "###/#.."), drawnPatch(".aa/aa.", "##/##"),
		drawnPatch("aaa/a..", "###/.#."), drawnPatch("abb/aab/...", "##/#.", "###"),
		// There are fewer cells, or more, or none.
		drawnPatch("aa", "#"), drawnPatch("aa", "###"), drawnPatch("aa", "##", "#"), drawnPatch("bb", "##", "##"), drawnPatch("bb", "##/##", "##"),
		drawnPatch("aaab", "##", "##"), drawnPatch("aabb", "###", "#"), drawnPatch("...", "#"), drawnPatch("aa"),
		drawnPatch("ac", "#", "#"), drawnPatch("bc", "#", "#"),
		drawnPatch("aaa/aaa", "###", "###"), drawnPatch("aaaaaa", "#####"), drawnPatch("aaaa/aaaa/aaaa", "####"),
		// The pieces are exchanged.
		drawnPatch("abb", "##", "#"), drawnPatch("abbbb", "###", "##"),
	} {
		if impl.FillOk(p.r, p.pieces, p.fill) || isFill(p) {
			t.Error(impl.RegionText(p.r), p)
		}
	}
}

func TestP117WrongNumbersAreNotRight(t *testing.T) {
	for _, p := range somePatches() {
		for cell := range p.fill {
			for _, far := range append(farNumbers(), -2, len(p.pieces), len(p.pieces)+1, impl.MaxFill, -1) {
				q := patch{p.r, p.pieces, slices.Clone(p.fill)}
				q.fill[cell] = far
				right := far == p.fill[cell]
				if impl.FillOk(q.r, q.pieces, q.fill) != right {
					t.Fatal(q)
				}
			}
		}
		for _, fill := range [][]int{nil, {}, p.fill[1:], p.fill[:len(p.fill)-1], append(slices.Clone(p.fill), -1), append(slices.Clone(p.fill), 0), make([]int, 36), slices.Repeat([]int{-1}, 36)} {
			checkFill(t, patch{p.r, p.pieces, fill})
		}
	}
}

func TestP117OtherArgumentsAreNotFilled(t *testing.T) {
	for _, p := range wrongPatches() {
		if impl.FillOk(p.r, p.pieces, p.fill) {
			t.Error(p)
		}
	}
}

// checkFills holds FillsAll against what is told, and each of its lists.
func checkFills(t *testing.T, r impl.Region, pieces [][]impl.Cell) int {
	t.Helper()
	all, told := impl.FillsAll(r, pieces), toldFills(r, pieces)
	if !sameLists(all, told) {
		t.Fatal(impl.RegionText(r), pieces, len(all), len(told))
	}
	for _, fill := range all {
		if !impl.FillOk(r, pieces, fill) || !isFill(patch{r, pieces, fill}) {
			t.Fatal(impl.RegionText(r), pieces, fill)
		}
	}
	return len(all)
}

func TestP34FillsAreToldOnce(t *testing.T) {
	for _, p := range somePatches() {
		if checkFills(t, p.r, p.pieces) == 0 {
			t.Fatal(p)
		}
	}
}

func TestP34FillsOfTinyRegions(t *testing.T) {
	many := map[bool]int{}
	for _, r := range tinyRegions(5) {
		for cells := range 6 {
			for _, pieces := range pieceLists(cells) {
				many[checkFills(t, r, pieces) > 0]++
			}
		}
	}
	if many[true] < 300 || many[false] < 300 {
		t.Error("regions are filled always, or never", many)
	}
}

func TestP34FillsWithOtherPieces(t *testing.T) {
	dice := rand.New(rand.NewSource(6))
	many := map[bool]int{}
	for _, p := range somePatches() {
		if len(p.pieces) == 0 {
			continue
		}
		i := dice.Intn(len(p.pieces))
		pieces := slices.Clone(p.pieces)
		told := toldPieces(len(pieces[i]))
		pieces[i] = undrawn(told[dice.Intn(len(told))])
		many[checkFills(t, p.r, pieces) > 0]++
	}
	if many[true] < 50 || many[false] < 50 {
		t.Error("regions are filled always, or never", many)
	}
}

func TestP34OtherNumbersOfCellsHaveNoFills(t *testing.T) {
	for _, p := range somePatches() {
		for i, piece := range p.pieces {
			pieces := slices.Clone(p.pieces)
			pieces[i] = undrawn(formsWith(len(piece)%impl.MaxPiece + 1)[0])
			for _, other := range [][][]impl.Cell{p.pieces[i+1:], p.pieces[:i], pieces} {
				if all := impl.FillsAll(p.r, other); len(all) != 0 {
					t.Fatal(p, other, all)
				}
			}
		}
	}
}

func TestP34DominoesAloneAreTilings(t *testing.T) {
	list := append(tinyRegions(8), holedRegions(t)...)
	for _, r := range append(list, filled(3, 4, 12), filled(6, 2, 12), filled(2, 6, 12)) {
		cells := countCells(r)
		if cells%2 != 0 || cells > 12 {
			continue
		}
		orders := 1
		for i := range cells / 2 {
			orders *= i + 1
		}
		dominoes := slices.Repeat([][]impl.Cell{pieceOf("##")}, cells/2)
		all := impl.FillsAll(r, dominoes)
		if len(all) != orders*len(impl.TilingsAll(r)) || len(all) != orders*toldBars(r, 2) {
			t.Fatal(impl.RegionText(r), len(all))
		}
		seen := map[string]bool{}
		for _, fill := range all {
			seen[fillKey(r, fill)] = true
		}
		if len(seen) != len(all) {
			t.Fatal("the same twice", impl.RegionText(r))
		}
	}
}

func TestP34CellsAloneAreInOrder(t *testing.T) {
	for many := range impl.MaxFill + 1 {
		r := filled(6, 1, many)
		all := impl.FillsAll(r, slices.Repeat([][]impl.Cell{{{}}}, many))
		orders := 1
		for i := range many {
			orders *= i + 1
		}
		if len(all) != orders {
			t.Error(many, len(all))
		}
		for i := range all[1:] {
			if slices.Compare(all[i], all[i+1]) >= 0 {
				t.Error(many, all[i], all[i+1])
			}
		}
	}
}

func TestP34FillsOfTexts(t *testing.T) {
	for _, c := range []struct {
		region string
		pieces []string
		want   [][]int
	}{
		{".", nil, [][]int{{-1}}},
		{"../..", nil, [][]int{{-1, -1, -1, -1}}},
		{"..", []string{"#"}, nil},
		{"#", nil, nil},
		{"#", []string{"#"}, [][]int{{0}}},
		{"##", []string{"#", "#"}, [][]int{{0, 1}, {1, 0}}},
		{"##", []string{"#/#"}, [][]int{{0, 0}}},
		{"#.#", []string{"##"}, nil},
		{"#./.#", []string{"##"}, nil},
		{"###", []string{"#", "##"}, [][]int{{0, 1, 1}, {1, 1, 0}}},
		{"##/##", []string{"##", "##"}, [][]int{{0, 0, 1, 1}, {0, 1, 0, 1}, {1, 1, 0, 0}, {1, 0, 1, 0}}},
		{"##/##", []string{"#", "##/#."}, [][]int{{0, 1, 1, 1}, {1, 1, 1, 0}, {1, 1, 0, 1}, {1, 0, 1, 1}}},
		{"###/###", []string{"##/#.", "##/#."}, [][]int{{0, 0, 1, 0, 1, 1}, {0, 1, 1, 0, 0, 1}, {1, 1, 0, 1, 0, 0}, {1, 0, 0, 1, 1, 0}}},
		{"##./.##", []string{".##/##."}, [][]int{{-1, 0, 0, 0, 0, -1}}},
		{"###/#.#/###", []string{"###", "#.#/###"}, [][]int{{0, 0, 0, 1, -1, 1, 1, 1, 1}, {0, 1, 1, 0, -1, 1, 0, 1, 1}, {1, 1, 1, 1, -1, 1, 0, 0, 0}, {1, 1, 0, 1, -1, 0, 1, 1, 0}}},
		{"####", []string{"##/##"}, nil},
	} {
		var pieces [][]impl.Cell
		for _, text := range c.pieces {
			pieces = append(pieces, pieceOf(text))
		}
		if all := impl.FillsAll(region(t, c.region), pieces); !sameLists(all, c.want) {
			t.Error(c.region, c.pieces, all)
		}
	}
}

func TestP34GreatRegions(t *testing.T) {
	corner := pieceOf("##/#.")
	for text, pieces := range map[string][][]impl.Cell{
		"####/####/####/####":         {pieceOf("####"), pieceOf("##/##"), pieceOf("##/##"), pieceOf("#../###")},
		"######/######/######":        slices.Repeat([][]impl.Cell{corner}, 6),
		"####/####/####/####/####":    {pieceOf("#####"), pieceOf("##./###"), pieceOf("#.../####"), pieceOf("#.#/###")},
		"######/#....#/#....#/######": {pieceOf("#####"), pieceOf("#/#/#/#"), pieceOf("##/#."), pieceOf("####")},
		"######/######/######/######": {pieceOf("#####"), pieceOf("#####"), pieceOf("#####"), pieceOf("#####"), pieceOf("####")},
		"#####/#...#/#.#.#/#...#/#####": {
			pieceOf("#####"), pieceOf("#"), pieceOf("#../#../###"), pieceOf("#/#/#"), pieceOf("###"),
		},
	} {
		checkFills(t, region(t, text), pieces)
	}
}

func TestP34OtherArgumentsHaveNoFills(t *testing.T) {
	for _, p := range wrongPatches() {
		if all := impl.FillsAll(p.r, p.pieces); len(all) != 0 {
			t.Error(p, all)
		}
	}
}
