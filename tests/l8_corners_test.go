package tests

import (
	"slices"
	"testing"

	"loop.example/dominotilings/impl"
)

// quarterOf tells in which quarter of a square a cell is: 0 in the south-west, 1 in the south-east, 2 in the north-west, 3 in the north-east.
func quarterOf(p place, side int) int {
	quarter := 0
	if p.x >= side/2 {
		quarter++
	}
	if p.y >= side/2 {
		quarter += 2
	}
	return quarter
}

// toldCorners is CornerFill: the piece 0 has the middle, and in a square of four cells each quarter has one piece, numbered from 1 on.
func toldCorners(side int, cell int) []int {
	r := filled(side, side, side*side)
	out := placeOf(r, cell)
	fill := make([]int, side*side)
	for i := range fill {
		p := placeOf(r, i)
		middle := (p.x == side/2-1 || p.x == side/2) && (p.y == side/2-1 || p.y == side/2)
		if !middle || quarterOf(p, side) == quarterOf(out, side) {
			fill[i] = 1 + quarterOf(p, side)
		}
	}
	fill[cell] = -1
	return fill
}

func TestP35CornersFillASquareWithoutACell(t *testing.T) {
	for _, side := range []int{1, 2, 4} {
		for cell := range side * side {
			fill, ok := impl.CornerFill(side, cell)
			if !ok || !slices.Equal(fill, toldCorners(side, cell)) {
				t.Error(side, cell, fill, ok)
			}
			r := filled(side, side, side*side)
			r.Cells[cell] = false
			corners := slices.Repeat([][]impl.Cell{pieceOf("##/#.")}, side*side/3)
			if !impl.FillOk(r, corners, fill) || !isFill(patch{r, corners, fill}) {
				t.Error("not right", side, cell, fill)
			}
		}
	}
}

func TestP35CornersOfTexts(t *testing.T) {
	for _, c := range []struct {
		side int
		cell int
		want string
	}{
		{1, 0, "."},
		{2, 0, "aa/.a"}, {2, 1, "aa/a."}, {2, 2, ".a/aa"}, {2, 3, "a./aa"},
		{4, 0, "ddee/daae/bbac/.bcc"}, {4, 3, "ddee/daae/bacc/bbc."}, {4, 12, ".dee/ddae/baac/bbcc"}, {4, 15, "dde./daee/baac/bbcc"},
		{4, 5, "ddee/daae/b.ac/bbcc"}, {4, 6, "ddee/daae/ba.c/bbcc"}, {4, 9, "ddee/d.ae/baac/bbcc"}, {4, 10, "ddee/da.e/baac/bbcc"},
		{4, 1, "ddee/daae/bbac/b.cc"}, {4, 7, "ddee/daae/bac./bbcc"}, {4, 14, "dd.e/daee/baac/bbcc"},
	} {
		fill, ok := impl.CornerFill(c.side, c.cell)
		if want := drawnPatch(c.want).fill; !ok || !slices.Equal(fill, want) {
			t.Error(c, fill, ok)
		}
	}
}

func TestP35OtherSidesAndCellsAreNotFilled(t *testing.T) {
	for _, side := range append(farNumbers(), 0, 3, 5, 6, 7, 8, 16, 32, 64, -2, -4, 1<<31, 1<<16) {
		for _, cell := range append(farNumbers(), 0, 1, 3, 4, 8, 15, 16, 63) {
			if fill, ok := impl.CornerFill(side, cell); ok || len(fill) != 0 {
				t.Error(side, cell, fill)
			}
		}
	}
	for _, side := range []int{1, 2, 4} {
		for _, cell := range append(farNumbers(), side*side, side*side+1, -2, -side, -side*side) {
			if fill, ok := impl.CornerFill(side, cell); ok || len(fill) != 0 {
				t.Error(side, cell, fill)
			}
		}
	}
}
