package tests

import (
	"slices"
	"testing"

	"loop.example/dominotilings/impl"
)

// pieceMakers are all functions of the chapter that return pieces for a piece.
func pieceMakers() map[string]func(p []impl.Cell) [][]impl.Cell {
	return map[string]func(p []impl.Cell) [][]impl.Cell{
		"PieceMoved": func(p []impl.Cell) [][]impl.Cell { return [][]impl.Cell{impl.PieceMoved(p)} },
		"PieceTurn":  func(p []impl.Cell) [][]impl.Cell { return [][]impl.Cell{impl.PieceTurn(p)} },
		"PieceFlip":  func(p []impl.Cell) [][]impl.Cell { return [][]impl.Cell{impl.PieceFlip(p)} },
		"PieceFirst": func(p []impl.Cell) [][]impl.Cell { return [][]impl.Cell{impl.PieceFirst(p)} },
		"PieceForms": impl.PieceForms,
		"PiecesAll":  func(p []impl.Cell) [][]impl.Cell { return impl.PiecesAll(len(p)) },
	}
}

// fillMakers are all functions of the chapter that return lists for a region and pieces.
func fillMakers() map[string]func(p patch) [][]int {
	return map[string]func(p patch) [][]int{
		"FillsAll": func(p patch) [][]int { return impl.FillsAll(p.r, p.pieces) },
		"CornerFill": func(p patch) [][]int {
			fill, _ := impl.CornerFill(p.r.Wide, p.r.Tall)
			return [][]int{fill}
		},
		"CornerFill nowhere": func(p patch) [][]int {
			fill, _ := impl.CornerFill(p.r.Wide, -p.r.Tall)
			return [][]int{fill}
		},
	}
}

// answersOf calls all functions of the chapter that return neither pieces nor lists.
func answersOf(p patch) []bool {
	list := []bool{impl.PiecesValid(p.pieces), impl.FillOk(p.r, p.pieces, p.fill)}
	for i, piece := range p.pieces {
		r := impl.PieceRegion(piece)
		list = append(list, impl.PieceValid(piece), impl.SamePiece(piece, p.pieces[0]), impl.SamePiece(p.pieces[i], piece), impl.RegionValid(r))
		list = append(list, r.Cells...)
	}
	return list
}

// roomyPiece returns a piece with spare capacity behind its cells.
func roomyPiece(p []impl.Cell) []impl.Cell {
	return append(make([]impl.Cell, 0, len(p)+8), p...)
}

// roomyPatch returns the arguments with spare capacity behind all that has some.
func roomyPatch(p patch) patch {
	pieces := make([][]impl.Cell, 0, len(p.pieces)+8)
	for _, piece := range p.pieces {
		pieces = append(pieces, roomyPiece(piece))
	}
	return patch{roomy(p.r), pieces, append(make([]int, 0, len(p.fill)+8), p.fill...)}
}

// wholePieces returns copies of all memory that pieces have.
func wholePieces(pieces [][]impl.Cell) [][]impl.Cell {
	var list [][]impl.Cell
	for _, p := range pieces[:cap(pieces)] {
		list = append(list, slices.Clone(p[:cap(p)]))
	}
	return list
}

func samePieces(a [][]impl.Cell, b [][]impl.Cell) bool {
	return slices.EqualFunc(a, b, slices.Equal[[]impl.Cell])
}

// displace writes into all memory that a piece has.
func displace(p []impl.Cell) {
	all := p[:cap(p)]
	for i := range all {
		all[i] = impl.Cell{Column: all[i].Column + 77, Row: all[i].Row - 5}
	}
}

// displaceAll writes into all memory that pieces have, the list of them as well.
func displaceAll(pieces [][]impl.Cell) {
	all := pieces[:cap(pieces)]
	for i := range all {
		displace(all[i])
		all[i] = []impl.Cell{{Column: 3}}
	}
}

// memoryPieces returns pieces for which each function has a result, and some for which it has none.
func memoryPieces() [][]impl.Cell {
	list := badPieces()
	for text := range namedPieces() {
		list = append(list, pieceOf(text), shifted(pieceOf(text), -9, 4), impl.PieceFirst(pieceOf(text)))
	}
	return list
}

func memoryPatches() []patch {
	list := append(wrongPatches(), drawnPatch("a", "#"), drawnPatch("."), drawnPatch("aab/abb", "##/#.", "##/#."), drawnPatch("abcd", "#", "#", "#", "#"))
	for i, p := range somePatches() {
		if i%5 == 0 && countCells(p.r) < 16 {
			list = append(list, p)
		}
	}
	return list
}

func TestPiecesAreNotWrittenTo(t *testing.T) {
	for name, maker := range pieceMakers() {
		for _, given := range memoryPieces() {
			p := roomyPiece(given)
			before := slices.Clone(p[:cap(p)])
			maker(p)
			answersOf(patch{filled(2, 1, 2), [][]impl.Cell{p, p}, []int{0, 1}})
			if !slices.Equal(p[:cap(p)], before) {
				t.Fatal(name, "writes into", given)
			}
		}
	}
}

func TestPiecesShareNoMemory(t *testing.T) {
	for name, maker := range pieceMakers() {
		for _, given := range memoryPieces() {
			p := roomyPiece(given)
			before := slices.Clone(p[:cap(p)])
			first, second := maker(p), maker(p)
			kept := wholePieces(first)
			displaceAll(second)
			if !samePieces(wholePieces(first), kept) || !slices.Equal(p[:cap(p)], before) {
				t.Fatal(name, "shares memory of", given)
			}
			if !samePieces(maker(p), first) {
				t.Fatal(name, "remembers", given)
			}
			displace(p)
			if !samePieces(wholePieces(first), kept) {
				t.Fatal(name, "keeps memory of", given)
			}
		}
	}
}

// TestPiecesShareNoMemoryWithEachOther writes into the pieces of one result, one after the other: those behind stay as they are.
func TestPiecesShareNoMemoryWithEachOther(t *testing.T) {
	for name, maker := range pieceMakers() {
		for _, given := range memoryPieces() {
			all := maker(given)
			kept := wholePieces(all[:len(all):len(all)])
			for i, p := range all {
				displace(p)
				if !samePieces(wholePieces(all[i+1:len(all):len(all)]), kept[i+1:]) {
					t.Fatal(name, given, i)
				}
			}
			for i, p := range all {
				for j, c := range p {
					if c.Column != kept[i][j].Column+77 || c.Row != kept[i][j].Row-5 {
						t.Fatal(name, "written to more than once", given, i)
					}
				}
			}
		}
	}
}

func TestPieceRegionSharesNoMemory(t *testing.T) {
	for _, given := range memoryPieces() {
		p := roomyPiece(given)
		first, second := impl.PieceRegion(p), impl.PieceRegion(p)
		cells := whole(first)
		invert(second)
		displace(p)
		if !slices.Equal(whole(first), cells) || !sameRegion(impl.PieceRegion(given), first) {
			t.Fatal("shares memory of", given)
		}
	}
}

// checkPatch compares arguments with copies of all their memory.
func checkPatch(t *testing.T, name string, p patch, before patch) {
	t.Helper()
	if !slices.Equal(whole(p.r), before.r.Cells) || !samePieces(wholePieces(p.pieces), before.pieces) || !slices.Equal(wholeList(p.fill), before.fill) {
		t.Fatal(name, "writes into", p)
	}
}

func wholePatch(p patch) patch {
	return patch{impl.Region{Cells: whole(p.r)}, wholePieces(p.pieces), wholeList(p.fill)}
}

func TestFillsWriteNowhere(t *testing.T) {
	for name, maker := range fillMakers() {
		for _, given := range memoryPatches() {
			p := roomyPatch(given)
			before := wholePatch(p)
			maker(p)
			checkPatch(t, name, p, before)
			answersOf(p)
			checkPatch(t, "a question", p, before)
		}
	}
}

func TestFillsShareNoMemory(t *testing.T) {
	for name, maker := range fillMakers() {
		for _, given := range memoryPatches() {
			p := roomyPatch(given)
			before := wholePatch(p)
			first, second := maker(p), maker(p)
			kept := copyLists(first)
			for _, list := range second {
				scribble(list)
			}
			checkPatch(t, name, p, before)
			if !sameLists(copyLists(first), kept) || !sameLists(maker(p), first) {
				t.Fatal(name, "shares memory or remembers", given)
			}
			invert(p.r)
			displaceAll(p.pieces)
			scribble(p.fill)
			if !sameLists(copyLists(first), kept) {
				t.Fatal(name, "keeps memory of", given)
			}
			checkApart(t, given.r, first)
		}
	}
}

func TestPiecesAreTheSameEachTime(t *testing.T) {
	for _, p := range memoryPatches() {
		answers, all := answersOf(p), impl.FillsAll(p.r, p.pieces)
		for range 3 {
			if !slices.Equal(answersOf(p), answers) || !sameLists(impl.FillsAll(p.r, p.pieces), all) {
				t.Fatal(p)
			}
		}
	}
}

func TestNothingPanicsWithPieces(t *testing.T) {
	fields := append(wrongFields(), field{filled(6, 4, 24), make([]int, 24)}, field{filled(6, 6, 0), slices.Repeat([]int{-1}, 36)})
	for _, f := range fields {
		for _, pieces := range [][][]impl.Cell{nil, {nil}, {{{}}}, {pieceOf("##"), {}}, {pieceOf("#.#")}, {pieceOf("##"), pieceOf("##/#."), pieceOf("#")}, make([][]impl.Cell, 7)} {
			p := patch{f.r, pieces, f.laid}
			answersOf(p)
			for _, maker := range fillMakers() {
				maker(p)
			}
		}
	}
	for _, p := range memoryPieces() {
		for _, maker := range pieceMakers() {
			maker(p)
		}
		answersOf(patch{filled(3, 2, 6), [][]impl.Cell{p, {{}}, p}, []int{0, 0, 0, 1, 2, 2}})
		impl.FillsAll(filled(3, 2, 6), [][]impl.Cell{p, {{}}, p})
	}
	for _, far := range farNumbers() {
		impl.PiecesAll(far)
		impl.CornerFill(far, far)
		impl.CornerFill(far, 0)
		impl.CornerFill(4, far)
	}
}
