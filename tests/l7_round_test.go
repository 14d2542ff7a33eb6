package tests

import (
	"slices"
	"testing"

	"loop.example/dominotilings/impl"
)

// eachSides calls a function for many sides, also such that no box has.
func eachSides(check func(wide int, tall int)) {
	for wide := -3; wide <= 9; wide++ {
		for tall := -3; tall <= 9; tall++ {
			check(wide, tall)
		}
	}
	for _, far := range append(farNumbers(), 0, 1, 7) {
		for _, side := range append(farNumbers(), 1, 2, 3, 4, 6) {
			check(far, side)
			check(side, far)
		}
	}
}

func TestP107TheWayGoesRound(t *testing.T) {
	texts := roundTexts()
	eachSides(func(wide int, tall int) {
		round := impl.RoundOf(wide, tall)
		text, there := texts[[2]int{wide, tall}]
		if !there {
			if len(round) != 0 {
				t.Fatal(wide, tall, round)
			}
			return
		}
		told, last := walked(text)
		if last != told[0] || !slices.Equal(round, indicesOf(filled(wide, tall, 0), told)) {
			t.Fatal(wide, tall, round)
		}
	})
}

func TestP107EveryCellComesOnce(t *testing.T) {
	for sides := range roundTexts() {
		r := filled(sides[0], sides[1], sides[0]*sides[1])
		round := impl.RoundOf(r.Wide, r.Tall)
		if len(round) != len(r.Cells) || round[0] != 0 {
			t.Fatal(sides, round)
		}
		for i, cell := range round {
			before := round[(i+len(round)-1)%len(round)]
			if slices.Contains(round[:i], cell) || !sideBySide(placeOf(r, cell), placeOf(r, before)) {
				t.Fatal(sides, round)
			}
		}
	}
}

func TestP107WhichBoxesHaveAWay(t *testing.T) {
	many := 0
	for wide := 2; wide <= 6; wide++ {
		for tall := 2; tall <= 6; tall++ {
			has := wide*tall <= 24 && (wide%2 == 0 || tall%2 == 0)
			if (len(impl.RoundOf(wide, tall)) > 0) != has {
				t.Error(wide, tall)
			}
			if has {
				many++
			}
		}
	}
	if many != len(roundTexts()) {
		t.Error("a box is not told", many)
	}
}

// checkCut holds CutTwo against what a round way tells.
func checkCut(t *testing.T, r impl.Region, round []place, i int, j int) {
	t.Helper()
	p, q := round[i], round[j]
	a, b := indexOf(r, p), indexOf(r, q)
	laid, ok := impl.CutTwo(r.Wide, r.Tall, a, b)
	if (p.x+p.y+q.x+q.y)%2 == 0 {
		if ok || len(laid) != 0 {
			t.Fatal("of one colour", r.Wide, r.Tall, a, b, laid)
		}
		return
	}
	rest := without(r, p, q)
	if !ok || !isRight(rest, laid) || !isFull(rest, laid) || !impl.TilingOk(rest, laid) {
		t.Fatal("no tiling", r.Wide, r.Tall, a, b, laid, ok)
	}
	if told := toldCut(r, round, i, j); !slices.Equal(laid, told) {
		t.Fatal("not along the way", impl.LaidText(rest, laid), impl.LaidText(rest, told))
	}
}

func TestP29ABoxWithoutADarkAndALightCellHasATiling(t *testing.T) {
	for sides, text := range roundTexts() {
		r := filled(sides[0], sides[1], sides[0]*sides[1])
		round, _ := walked(text)
		for i := range round {
			for j := range round {
				checkCut(t, r, round, i, j)
			}
		}
	}
}

func TestP29OtherCellsAreNotCutOut(t *testing.T) {
	for sides := range roundTexts() {
		wide, tall := sides[0], sides[1]
		for _, far := range append(farNumbers(), wide*tall, wide*tall+1, wide*tall+2, -2, -wide) {
			for cell := range wide * tall {
				first, okFirst := impl.CutTwo(wide, tall, far, cell)
				second, okSecond := impl.CutTwo(wide, tall, cell, far)
				if okFirst || okSecond || len(first) != 0 || len(second) != 0 {
					t.Fatal(wide, tall, far, cell, first, second)
				}
			}
			for _, other := range []int{far, -1, wide * tall} {
				if laid, ok := impl.CutTwo(wide, tall, far, other); ok || len(laid) != 0 {
					t.Fatal(wide, tall, far, other, laid)
				}
			}
		}
	}
}

func TestP29OtherSidesHaveNoTiling(t *testing.T) {
	texts := roundTexts()
	eachSides(func(wide int, tall int) {
		if _, there := texts[[2]int{wide, tall}]; there {
			return
		}
		for _, cells := range [][2]int{{0, 1}, {1, 0}, {0, 0}, {-1, -1}, {-1, 0}, {0, 5}, {2, 1}, {0, 3}, {29, 24}} {
			if laid, ok := impl.CutTwo(wide, tall, cells[0], cells[1]); ok || len(laid) != 0 {
				t.Fatal(wide, tall, cells, laid)
			}
		}
	})
}

func TestP29TilingsOfTexts(t *testing.T) {
	for _, c := range []struct {
		wide int
		tall int
		a    int
		b    int
		want string
	}{
		{2, 2, 0, 1, "ew/.."},
		{2, 2, 1, 0, "ew/.."},
		{2, 2, 0, 2, ".s/.n"},
		{2, 2, 3, 2, "../ew"},
		{2, 2, 1, 3, "s./n."},
		{3, 2, 0, 5, "ew./.ew"},
		{3, 2, 5, 0, "ew./.ew"},
		{3, 2, 0, 1, "ews/..n"},
		{3, 2, 0, 3, ".ew/.ew"},
		{3, 2, 4, 1, "s.s/n.n"},
		{3, 2, 3, 4, "..s/ewn"},
		{2, 3, 0, 5, "s./ns/.n"},
		{2, 3, 0, 2, "ew/.s/.n"},
		{4, 2, 0, 3, "ewew/.ew."},
		{4, 4, 0, 3, "ewew/ssew/nnew/.ew."},
		{4, 4, 5, 6, "sews/newn/s..s/newn"},
		{4, 4, 6, 5, "sews/newn/s..s/newn"},
	} {
		laid, ok := impl.CutTwo(c.wide, c.tall, c.a, c.b)
		r := filled(c.wide, c.tall, c.wide*c.tall)
		rest := without(r, placeOf(r, c.a), placeOf(r, c.b))
		if text := impl.LaidText(rest, laid); !ok || text != c.want {
			t.Error(c, ok, text)
		}
	}
}
