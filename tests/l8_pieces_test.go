package tests

import (
	"math/rand"
	"slices"
	"testing"

	"loop.example/dominotilings/impl"
)

// checkPiece holds PieceValid against what is told, for the cells in several orders.
func checkPiece(t *testing.T, p []impl.Cell, dice *rand.Rand) {
	t.Helper()
	valid := isPiece(p)
	for range 3 {
		if impl.PieceValid(p) != valid {
			t.Fatal(p, !valid)
		}
		p = mixed(p, dice)
	}
}

func TestP109PiecesHangTogether(t *testing.T) {
	dice := rand.New(rand.NewSource(1))
	many := map[bool]int{}
	for mask := range 1 << 12 {
		r := masked(4, 3, mask)
		p := cellsWith(r, slices.Repeat([]int{0}, 12), 0)
		p = slices.DeleteFunc(p, func(c impl.Cell) bool { return !within(r, c.Column, c.Row) })
		many[isPiece(p)]++
		checkPiece(t, p, dice)
		checkPiece(t, shifted(p, -9, 7), dice)
		checkPiece(t, shifted(p, dice.Intn(20)-10, dice.Intn(20)-10), dice)
	}
	if many[true] < 100 || many[false] < 100 {
		t.Error("no pieces, or only pieces", many)
	}
}

func TestP109AllFormsAreValid(t *testing.T) {
	for _, p := range allForms() {
		if !impl.PieceValid(p) || !isPiece(p) {
			t.Fatal(p)
		}
	}
}

func TestP109ACellAloneIsAPiece(t *testing.T) {
	for x := -12; x <= 12; x++ {
		for y := -12; y <= 12; y++ {
			near := x >= -9 && x <= 9 && y >= -9 && y <= 9
			if impl.PieceValid([]impl.Cell{{Column: x, Row: y}}) != near {
				t.Error(x, y, !near)
			}
		}
	}
}

func TestP109NoCellComesTwice(t *testing.T) {
	for _, p := range allForms() {
		for i := range p {
			for _, c := range p {
				if twice := slices.Insert(slices.Clone(p), i, c); impl.PieceValid(twice) {
					t.Fatal(twice)
				}
			}
			changed := slices.Clone(p)
			changed[i] = p[0]
			if i > 0 && impl.PieceValid(changed) {
				t.Fatal(changed)
			}
		}
		if twice := append(slices.Clone(p), p[0]); impl.PieceValid(twice) {
			t.Fatal(twice)
		}
	}
}

func TestP109PiecesDoNotGoTooFar(t *testing.T) {
	for _, p := range allForms() {
		for n := -19; n <= 19; n++ {
			for _, q := range [][]impl.Cell{shifted(p, n, 0), shifted(p, 0, n), shifted(p, n, n)} {
				if impl.PieceValid(q) != isPiece(q) {
					t.Fatal(q)
				}
			}
		}
	}
}

func TestP109BadPiecesAreNotValid(t *testing.T) {
	for _, p := range badPieces() {
		if impl.PieceValid(p) || isPiece(p) {
			t.Error(p)
		}
	}
}

// checkForm looks whether a function returns the piece brought to a form, moved and in order.
func checkForm(t *testing.T, name string, got []impl.Cell, brought []impl.Cell) {
	t.Helper()
	if !slices.Equal(got, undrawn(drawing(brought))) {
		t.Fatal(name, brought, got)
	}
}

func TestP110MovedPiecesAreAtTheEdge(t *testing.T) {
	for _, p := range allForms() {
		moved := impl.PieceMoved(p)
		checkForm(t, "moved", moved, p)
		checkForm(t, "moved again", impl.PieceMoved(moved), p)
		west := slices.ContainsFunc(moved, func(c impl.Cell) bool { return c.Column == 0 })
		south := slices.ContainsFunc(moved, func(c impl.Cell) bool { return c.Row == 0 })
		if !impl.PieceValid(moved) || len(moved) != len(p) || !west || !south {
			t.Fatal(p, moved)
		}
	}
}

func TestP110PiecesOfTexts(t *testing.T) {
	for text, want := range map[string][]impl.Cell{
		"#":           {{}},
		"....#/.....": {{}},
		"#/#":         {{}, {Row: 1}},
		"..##/.##./.": {{}, {Column: 1}, {Column: 1, Row: 1}, {Column: 2, Row: 1}},
		".#./###/.#.": {{Column: 1}, {Row: 1}, {Column: 1, Row: 1}, {Column: 2, Row: 1}, {Column: 1, Row: 2}},
		"#../#../###": {{}, {Column: 1}, {Column: 2}, {Row: 1}, {Row: 2}},
		"..#/..#/###": {{}, {Column: 1}, {Column: 2}, {Column: 2, Row: 1}, {Column: 2, Row: 2}},
		".....#####":  {{}, {Column: 1}, {Column: 2}, {Column: 3}, {Column: 4}},
	} {
		if moved := impl.PieceMoved(pieceOf(text)); !slices.Equal(moved, want) {
			t.Error(text, moved)
		}
	}
}

func TestP111FourRightAnglesAreAWholeTurn(t *testing.T) {
	for _, p := range allForms() {
		turned := impl.PieceTurn(p)
		checkForm(t, "turned", turned, broughtBy(p, quarterTurn()))
		for range 3 {
			turned = impl.PieceTurn(turned)
		}
		checkForm(t, "turned four times", turned, p)
		if !slices.Equal(turned, impl.PieceMoved(p)) {
			t.Fatal(p, turned)
		}
	}
}

func TestP111TurnsOfTexts(t *testing.T) {
	for text, want := range map[string]string{
		"#": "#", "##": "#/#", "#/#": "##", "##/##": "##/##", "#####": "#/#/#/#/#",
		"##/#.": "#./##", "###/#..": "#./#./##", "##./.##": ".#/##/#.",
		"####/#...": "#./#./#./##", ".#./###/.#.": ".#./###/.#.", "#../###/#..": ".#./.#./###",
	} {
		checkForm(t, text, impl.PieceTurn(pieceOf(text)), pieceOf(want))
	}
}

func TestP112MirrorsOfMirrorsAreNothing(t *testing.T) {
	for _, p := range allForms() {
		flipped := impl.PieceFlip(p)
		checkForm(t, "mirrored", flipped, broughtBy(p, eastToWest()))
		if !slices.Equal(impl.PieceFlip(flipped), impl.PieceMoved(p)) {
			t.Fatal("mirrored twice", p)
		}
		if !slices.Equal(impl.PieceTurn(impl.PieceFlip(impl.PieceTurn(p))), flipped) {
			t.Fatal("mirrored between two turns", p)
		}
	}
}

func TestP112MirrorsOfTexts(t *testing.T) {
	for text, want := range map[string]string{
		"#": "#", "##": "##", "#/#": "#/#", "##/##": "##/##", "##/#.": "##/.#", "###/#..": "###/..#",
		"##./.##": ".##/##.", ".#./###": ".#./###", "####/#...": "####/...#", "#../###/#..": "..#/###/..#",
		".##/##./.#.": "##./.##/.#.", "##./.#./.##": ".##/.#./##.",
	} {
		checkForm(t, text, impl.PieceFlip(pieceOf(text)), pieceOf(want))
	}
}

func TestP115PiecesAreRegionsOfOnePart(t *testing.T) {
	for _, p := range allForms() {
		r := impl.PieceRegion(p)
		cells := undrawn(drawing(p))
		east, north := room(cells)
		if !impl.RegionValid(r) || r.Wide != east+1 || r.Tall != north+1 || countCells(r) != len(p) || impl.PartsMany(r) != 1 {
			t.Fatal(p, r)
		}
		for _, c := range cells {
			if !within(r, c.Column, c.Row) {
				t.Fatal(p, r)
			}
		}
		if !sameRegion(impl.RegionTurn(r), impl.PieceRegion(impl.PieceTurn(p))) {
			t.Fatal("turned", p)
		}
		if !sameRegion(impl.RegionFlip(r), impl.PieceRegion(impl.PieceFlip(p))) {
			t.Fatal("mirrored", p)
		}
	}
}

func TestP115RegionsOfTexts(t *testing.T) {
	for _, text := range []string{"#", "##", "#/#", "##/#.", ".##/##.", "#####", "#/#/#/#/#", ".#./###/.#.", "#.#/###", "##/#./##", "..#/..#/###"} {
		for _, p := range [][]impl.Cell{pieceOf(text), shifted(pieceOf(text), -9, 5), shifted(pieceOf(text), 5, -9)} {
			if r := impl.PieceRegion(p); impl.RegionText(r) != text {
				t.Error(text, r)
			}
		}
	}
}

func TestP115BadPiecesHaveNoRegion(t *testing.T) {
	for _, p := range badPieces() {
		if r := impl.PieceRegion(p); !nothing(r) {
			t.Error(p, r)
		}
	}
}

func TestBadPiecesAreNotMoved(t *testing.T) {
	for name, maker := range map[string]func(p []impl.Cell) []impl.Cell{
		"P110": impl.PieceMoved, "P111": impl.PieceTurn, "P112": impl.PieceFlip, "P32": impl.PieceFirst,
	} {
		for _, p := range badPieces() {
			if got := maker(p); len(got) != 0 {
				t.Error(name, p, got)
			}
		}
	}
}
