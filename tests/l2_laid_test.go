package tests

import (
	"slices"
	"testing"

	"loop.example/dominotilings/impl"
)

func TestP61AStepBackLeadsBack(t *testing.T) {
	for _, r := range largeRegions() {
		for cell := range r.Cells {
			for _, way := range allWays() {
				checkStep(t, r, cell, way)
			}
			for _, way := range noWays() {
				if to := impl.StepTo(r, cell, way); to != -1 {
					t.Fatal(r, cell, way, to)
				}
			}
		}
		for _, cell := range append(farNumbers(), len(r.Cells)) {
			for _, way := range append(noWays(), allWays()...) {
				if to := impl.StepTo(r, cell, way); to != -1 {
					t.Fatal(r, cell, way, to)
				}
			}
		}
	}
	for _, r := range badRegions() {
		for cell := range 7 {
			for _, way := range allWays() {
				if to := impl.StepTo(r, cell, way); to != -1 {
					t.Error(r, cell, way, to)
				}
			}
		}
	}
}

func checkStep(t *testing.T, r impl.Region, cell int, way int) {
	t.Helper()
	to := impl.StepTo(r, cell, way)
	p := aside(placeOf(r, cell), way)
	if p.x < 0 || p.x >= r.Wide || p.y < 0 || p.y >= r.Tall {
		if to != -1 {
			t.Fatal("behind the edge", r, cell, way, to)
		}
		return
	}
	if to != indexOf(r, p) || to == cell || impl.StepTo(r, to, back(way)) != cell {
		t.Fatal(r, cell, way, to)
	}
}

func TestP62DominoesCanBeLifted(t *testing.T) {
	for _, f := range laidFields() {
		if !impl.LaidOk(f.r, f.laid) || !impl.LaidOk(f.r, make([]int, len(f.r.Cells))) {
			t.Fatal(f)
		}
		for cell, way := range f.laid {
			fewer := slices.Clone(f.laid)
			if way == impl.ToNone {
				continue
			}
			fewer[cell] = impl.ToNone
			if impl.LaidOk(f.r, fewer) {
				t.Fatal("half a domino", f, cell)
			}
			fewer[indexOf(f.r, aside(placeOf(f.r, cell), way))] = impl.ToNone
			if !impl.LaidOk(f.r, fewer) {
				t.Fatal(f, cell)
			}
		}
	}
	for _, f := range wrongFields() {
		if impl.LaidOk(f.r, f.laid) {
			t.Error(f)
		}
	}
}

// TestP62AllLists tries every list of the numbers -1 to 5 on every region of the fields of at most four cells.
func TestP62AllLists(t *testing.T) {
	for _, r := range smallRegions() {
		if len(r.Cells) > 4 {
			continue
		}
		many := 1
		for range r.Cells {
			many *= 7
		}
		for number := range many {
			laid := make([]int, len(r.Cells))
			for cell := range laid {
				laid[cell] = number%7 - 1
				number /= 7
			}
			if impl.LaidOk(r, laid) != isRight(r, laid) {
				t.Fatal(r, laid)
			}
		}
	}
}

func TestP63FlatAndUprightDominoesAreAll(t *testing.T) {
	for _, f := range laidFields() {
		covered, flat := 0, 0
		for _, way := range f.laid {
			if way != impl.ToNone {
				covered++
			}
		}
		for d := range dominoesOf(f.r, f.laid) {
			if d[0].y == d[1].y {
				flat++
			}
		}
		many := impl.LaidMany(f.r, f.laid)
		if 2*many != covered || impl.FlatMany(f.r, f.laid) != flat || flat > many {
			t.Fatal(f, many, flat)
		}
	}
	for _, f := range wrongFields() {
		if impl.LaidMany(f.r, f.laid) != -1 || impl.FlatMany(f.r, f.laid) != -1 {
			t.Error(f)
		}
	}
}

func TestP64BareRegionsHaveNoDominoes(t *testing.T) {
	for _, r := range validRegions() {
		bare := impl.LaidBare(r)
		if len(bare) != len(r.Cells) || slices.Max(bare) != 0 || slices.Min(bare) != 0 {
			t.Fatal(r, bare)
		}
		if impl.LaidMany(r, bare) != 0 || impl.FlatMany(r, bare) != 0 || impl.TilingOk(r, bare) != (countCells(r) == 0) {
			t.Fatal(r, bare)
		}
	}
	for _, r := range badRegions() {
		if bare := impl.LaidBare(r); len(bare) != 0 {
			t.Error(r, bare)
		}
	}
}

// mayLay tells by places whether a further domino fits in.
func mayLay(f field, cell int, way int) bool {
	if cell < 0 || cell >= len(f.laid) || !slices.Contains(allWays(), way) {
		return false
	}
	p := placeOf(f.r, cell)
	q := aside(p, way)
	return within(f.r, p.x, p.y) && within(f.r, q.x, q.y) && f.laid[cell] == impl.ToNone && f.laid[indexOf(f.r, q)] == impl.ToNone
}

func TestP65WhatWasLaidCanBeLifted(t *testing.T) {
	for _, f := range laidFields() {
		for cell := -1; cell <= len(f.laid); cell++ {
			for way := -1; way <= 5; way++ {
				checkLay(t, f, cell, way)
			}
		}
	}
	one := field{filled(2, 2, 4), []int{1, 3, 0, 0}}
	for _, far := range append(farNumbers(), 4) {
		checkLay(t, one, far, impl.ToEast)
		checkLay(t, one, 2, far)
		checkLay(t, one, far, far)
	}
	for _, far := range noWays() {
		checkLay(t, one, 2, far)
	}
	for _, f := range wrongFields() {
		for cell := -1; cell <= 4; cell++ {
			for way := range 6 {
				if laid, ok := impl.LayOne(f.r, f.laid, cell, way); ok || len(laid) != 0 {
					t.Error(f, cell, way, laid)
				}
			}
		}
	}
}

func checkLay(t *testing.T, f field, cell int, way int) {
	t.Helper()
	laid, ok := impl.LayOne(f.r, f.laid, cell, way)
	if !mayLay(f, cell, way) {
		if ok || !slices.Equal(laid, f.laid) {
			t.Fatal("it does not fit in", f, cell, way, laid)
		}
		return
	}
	p := placeOf(f.r, cell)
	want := slices.Clone(f.laid)
	want[cell], want[indexOf(f.r, aside(p, way))] = way, back(way)
	less, lifted := impl.LiftOne(f.r, laid, cell)
	if !ok || !slices.Equal(laid, want) || !lifted || !slices.Equal(less, f.laid) || impl.LaidMany(f.r, laid) != impl.LaidMany(f.r, f.laid)+1 {
		t.Fatal(f, cell, way, laid)
	}
}

func TestP66WhatWasLiftedCanBeLaid(t *testing.T) {
	for _, f := range laidFields() {
		for cell := -1; cell <= len(f.laid); cell++ {
			checkLift(t, f, cell)
		}
	}
	full := field{filled(2, 2, 4), []int{1, 3, 1, 3}}
	for _, far := range append(farNumbers(), 4) {
		checkLift(t, full, far)
	}
	for _, f := range wrongFields() {
		for cell := -1; cell <= 4; cell++ {
			if laid, ok := impl.LiftOne(f.r, f.laid, cell); ok || len(laid) != 0 {
				t.Error(f, cell, laid)
			}
		}
	}
}

func checkLift(t *testing.T, f field, cell int) {
	t.Helper()
	laid, ok := impl.LiftOne(f.r, f.laid, cell)
	if cell < 0 || cell >= len(f.laid) || f.laid[cell] == impl.ToNone {
		if ok || !slices.Equal(laid, f.laid) {
			t.Fatal("there is none", f, cell, laid)
		}
		return
	}
	way := f.laid[cell]
	want := slices.Clone(f.laid)
	want[cell], want[indexOf(f.r, aside(placeOf(f.r, cell), way))] = impl.ToNone, impl.ToNone
	more, again := impl.LayOne(f.r, laid, cell, way)
	if !ok || !slices.Equal(laid, want) || !again || !slices.Equal(more, f.laid) {
		t.Fatal(f, cell, laid)
	}
}
