package tests

import (
	"math/rand"
	"slices"
	"testing"

	"loop.example/dominotilings/impl"
)

func TestP113FormsAreTurnedAndMirroredIntoEachOther(t *testing.T) {
	for _, p := range allForms() {
		forms := impl.PieceForms(p)
		if !slices.Equal(drawings(forms), toldForms(p)) || !slices.Contains([]int{1, 2, 4, 8}, len(forms)) {
			t.Fatal(p, forms)
		}
		for _, form := range forms {
			checkForm(t, "a form", form, form)
			for _, other := range [][]impl.Cell{impl.PieceTurn(form), impl.PieceFlip(form)} {
				if !slices.ContainsFunc(forms, func(q []impl.Cell) bool { return slices.Equal(q, other) }) {
					t.Fatal(p, form, other)
				}
			}
			if again := impl.PieceForms(form); !slices.Equal(drawings(again), drawings(forms)) {
				t.Fatal(p, form, again)
			}
		}
	}
}

// comesBefore tells the order of two forms cell by cell.
func comesBefore(a []impl.Cell, b []impl.Cell) bool {
	for i := range a {
		if a[i].Row != b[i].Row {
			return a[i].Row < b[i].Row
		}
		if a[i].Column != b[i].Column {
			return a[i].Column < b[i].Column
		}
	}
	return false
}

func TestP113FormsAreInOrder(t *testing.T) {
	for _, p := range allForms() {
		forms := impl.PieceForms(p)
		for i := range forms[1:] {
			if !comesBefore(forms[i], forms[i+1]) {
				t.Fatal(p, forms)
			}
		}
	}
}

// namedPieces are all pieces, each drawn in one way, with how many forms it has.
func namedPieces() map[string]int {
	return map[string]int{
		"#": 1, "##": 2, "#/#/#": 2, "#./##": 4,
		"####": 2, "#./#./##": 8, "###/.#.": 4, "##/##": 1, ".##/##.": 4,
		".##/##./.#.": 8, "#/#/#/#/#": 2, "#./#./#./##": 8, "##/##/#.": 8, ".#/.#/##/#.": 8, "###/.#./.#.": 4,
		"#.#/###": 4, "#../#../###": 4, "#../##./.##": 4, ".#./###/.#.": 1, ".#/##/.#/.#": 8, "##./.#./.##": 4,
	}
}

func TestP113FormsOfTexts(t *testing.T) {
	for text, want := range namedPieces() {
		if forms := impl.PieceForms(pieceOf(text)); len(forms) != want {
			t.Error(text, len(forms))
		}
	}
	for text, want := range map[string][]string{
		"#":   {"#"},
		"#/#": {"##", "#/#"},
		"##/.#": {
			"#./##", ".#/##", "##/#.", "##/.#",
		},
		"##./.##": {".##/##.", ".#/##/#.", "##./.##", "#./##/.#"},
		"#../###": {
			"#../###", "..#/###", "#./#./##", ".#/.#/##", "###/#..", "##/#./#.", "##/.#/.#", "###/..#",
		},
	} {
		var told []string
		for _, form := range want {
			told = append(told, drawing(pieceOf(form)))
		}
		if forms := impl.PieceForms(pieceOf(text)); !slices.Equal(drawings(forms), told) {
			t.Error(text, forms)
		}
	}
}

func TestP113BadPiecesHaveNoForms(t *testing.T) {
	for _, p := range badPieces() {
		if forms := impl.PieceForms(p); len(forms) != 0 {
			t.Error(p, forms)
		}
	}
}

func TestP32TheFirstFormIsTheSameForAllForms(t *testing.T) {
	for _, p := range allForms() {
		first := impl.PieceFirst(p)
		if !slices.Equal(first, undrawn(toldForms(p)[0])) || !slices.Equal(first, impl.PieceForms(p)[0]) {
			t.Fatal(p, first)
		}
		for _, form := range append(impl.PieceForms(p), impl.PieceMoved(p), impl.PieceTurn(p), impl.PieceFlip(p)) {
			if other := impl.PieceFirst(form); !slices.Equal(other, first) {
				t.Fatal(p, form, other)
			}
		}
		if !slices.Contains(drawings(impl.PiecesAll(len(p))), drawing(first)) {
			t.Fatal("not one of all", p, first)
		}
	}
}

func TestP32FirstFormsOfTexts(t *testing.T) {
	for text, want := range map[string]string{
		"#": "#", "#/#": "##", "#/#/#": "###", "##/.#": "#./##",
		"#/#/#/#": "####", "..#/###": "#../###", "#./##/#.": ".#./###", "##/##": "##/##", "#./##/.#": ".##/##.",
		"#/#/#/#/#": "#####", "##/.#/.#/.#": "#.../####", ".#/##/.#/.#": ".#../####", "##/##/#.": "##./###",
		"##/#./##": "#.#/###", "###/..#/..#": "#../#../###", "#../###/#..": ".#./.#./###", ".#/.#/##/#.": "..##/###.",
		"##./.##/.#.": ".#./.##/##.", "#../##./.##": "..#/.##/##.", "##./.#./.##": ".##/.#./##.", ".#./###/.#.": ".#./###/.#.",
	} {
		for _, p := range [][]impl.Cell{pieceOf(text), shifted(pieceOf(text), -9, 4), pieceOf(want)} {
			if first := impl.PieceFirst(p); !slices.Equal(first, undrawn(drawing(pieceOf(want)))) {
				t.Error(text, first)
			}
		}
	}
}

func TestP114TheSameIsTheSameBothWays(t *testing.T) {
	list := allForms()
	dice := rand.New(rand.NewSource(3))
	same := 0
	for i := 0; i < len(list); i += 5 {
		for j := 0; j < len(list); j += 7 {
			a, b := mixed(list[i], dice), list[j]
			told := toldForms(a)[0] == toldForms(b)[0]
			if impl.SamePiece(a, b) != told || impl.SamePiece(b, a) != told {
				t.Fatal(a, b, told)
			}
			if told && (len(a) != len(b) || len(impl.PieceForms(a)) != len(impl.PieceForms(b))) {
				t.Fatal(a, b)
			}
			if told && i%17 != j%17 {
				same++
			}
		}
	}
	if same < 100 {
		t.Error("no forms of the same piece", same)
	}
}

func TestP114AllFormsAreTheSamePiece(t *testing.T) {
	for _, p := range allForms() {
		for _, form := range impl.PieceForms(p) {
			if !impl.SamePiece(p, form) || !impl.SamePiece(form, p) {
				t.Fatal(p, form)
			}
		}
		if len(p) > 1 && (impl.SamePiece(p, p[:1]) || impl.SamePiece(p[1:2], p)) {
			t.Fatal("with fewer cells", p)
		}
	}
}

func TestP114NamedPiecesDiffer(t *testing.T) {
	for text := range namedPieces() {
		for other := range namedPieces() {
			if impl.SamePiece(pieceOf(text), pieceOf(other)) != (text == other) {
				t.Error(text, other)
			}
		}
	}
}

func TestP114BadPiecesAreNotTheSame(t *testing.T) {
	bad := badPieces()
	for i, p := range bad {
		for _, q := range [][]impl.Cell{p, slices.Clone(p), bad[(i+1)%len(bad)], nil, {{}}, pieceOf("##"), pieceOf("##/.#")} {
			if impl.SamePiece(p, q) || impl.SamePiece(q, p) {
				t.Fatal(p, q)
			}
		}
	}
}

func TestP33ThereAreOneOneTwoFiveAndTwelvePieces(t *testing.T) {
	for i, want := range []int{1, 1, 2, 5, 12} {
		all := impl.PiecesAll(i + 1)
		if len(all) != want || !slices.Equal(drawings(all), toldPieces(i+1)) {
			t.Fatal(i+1, all)
		}
		for j, p := range all {
			if !impl.PieceValid(p) || len(p) != i+1 || !slices.Equal(p, impl.PieceFirst(p)) {
				t.Error(p)
			}
			for _, q := range all[:j] {
				if impl.SamePiece(p, q) || !comesBefore(q, p) {
					t.Error(q, p)
				}
			}
		}
	}
}

func TestP33PiecesOfTexts(t *testing.T) {
	for i, want := range [][]string{
		{"#"}, {"##"}, {"###", "#./##"}, {"####", "#../###", ".#./###", "##/##", ".##/##."},
	} {
		var told []string
		for _, text := range want {
			told = append(told, drawing(pieceOf(text)))
		}
		if all := impl.PiecesAll(i + 1); !slices.Equal(drawings(all), told) {
			t.Error(i+1, all)
		}
	}
	many := 0
	for text := range namedPieces() {
		p := pieceOf(text)
		if !slices.ContainsFunc(impl.PiecesAll(len(p)), func(q []impl.Cell) bool { return impl.SamePiece(p, q) }) {
			t.Error(text)
		}
		many++
	}
	if many != 21 {
		t.Error("a piece has no name", many)
	}
}

func TestP33OtherNumbersHaveNoPieces(t *testing.T) {
	for _, many := range append(farNumbers(), 0, 6, 7, 8, -5) {
		if all := impl.PiecesAll(many); len(all) != 0 {
			t.Error(many, all)
		}
	}
}
