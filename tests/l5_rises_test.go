package tests

import (
	"slices"
	"testing"

	"loop.example/dominotilings/impl"
)

func TestP18AFlipMovesOneCorner(t *testing.T) {
	for _, f := range simpleTilings() {
		heights := toldHeights(f.r, f.laid)
		all := dominoesOf(f.r, f.laid)
		for _, corner := range allCorners(f.r) {
			after, may := toldFlip(f.r, f.laid, all, corner)
			rise := impl.FlipRise(f.r, f.laid, corner)
			if !may && rise != 0 || may && rise != 4 && rise != -4 {
				t.Fatal(impl.LaidText(f.r, f.laid), corner, rise)
			}
			if !may {
				continue
			}
			moved := slices.Clone(heights)
			moved[corner] += rise
			if !slices.Equal(toldHeights(f.r, after), moved) || !slices.Equal(impl.HeightsOf(f.r, after), moved) {
				t.Fatal(impl.LaidText(f.r, f.laid), corner, rise)
			}
			if back := impl.FlipRise(f.r, after, corner); back != -rise {
				t.Fatal("back", impl.LaidText(f.r, f.laid), corner, rise, back)
			}
		}
	}
}

func TestP18OtherListsDoNotRise(t *testing.T) {
	for _, f := range notSimpleTilings(t) {
		for _, corner := range allCorners(filled(6, 6, 0)) {
			if rise := impl.FlipRise(f.r, f.laid, corner); rise != 0 {
				t.Fatal(f, corner, rise)
			}
		}
	}
}

func TestP18RisesOfTexts(t *testing.T) {
	for _, c := range []struct {
		text   string
		corner int
		want   int
	}{
		{"ew/ew", 4, 4},
		{"ss/nn", 4, -4},
		{"ew/ew", 0, 0},
		{"ew/ew", 8, 0},
		{"ew/ew", 9, 0},
		{"ew/ew", -4, 0},
		{"ew/##", 4, 0},
		{"ew/ew/##", 7, 0},
		{"ew#/ew#", 5, 0},
		{"ews/ewn", 5, 4},
		{"ews/ewn", 6, 0},
		{"sss/nnn", 5, -4},
		{"sss/nnn", 6, 4},
		{"sew/new", 6, -4},
		{".ew/.ew", 6, -4},
		{".ss/.nn", 6, 4},
		{"ew/ew/..", 7, -4},
		{"ss/nn/..", 7, 4},
		{".ew/.ew/...", 10, 4},
		{"ewew/sews/newn/ewew", 12, 4},
		{"ewew/ssss/nnnn/ewew", 12, -4},
		{"ew.ew/ew.ew", 7, 0},
		{"sewew/n.sew/ewnew", 16, 0},
	} {
		r, laid, ok := impl.ReadLaid(c.text)
		if rise := impl.FlipRise(r, laid, c.corner); !ok || rise != c.want {
			t.Error(c.text, c.corner, ok, rise)
		}
	}
}

// checkTurnsTo looks at the flips that change the height of their corner by as much, and at the tilings behind them.
func checkTurnsTo(t *testing.T, f field, corners []int, rise int) {
	t.Helper()
	turns := toldRises(f.r, f.laid, rise)
	if !slices.Equal(corners, turnCorners(turns)) {
		t.Fatal(impl.LaidText(f.r, f.laid), rise, corners, turnCorners(turns))
	}
	for _, one := range turns {
		if impl.FlipRise(f.r, f.laid, one.corner) != rise {
			t.Fatal(impl.LaidText(f.r, f.laid), rise, one.corner)
		}
		low, high := one.after, f.laid
		if rise > 0 {
			low, high = high, low
		}
		if !impl.Below(f.r, low, high) || impl.Below(f.r, high, low) {
			t.Fatal("not between", impl.LaidText(f.r, f.laid), rise, one.corner)
		}
	}
}

func TestP93OnlyTheLowestTilingHasNoWayDown(t *testing.T) {
	for _, f := range simpleTilings() {
		down := impl.DownOf(f.r, f.laid)
		checkTurnsTo(t, f, down, -4)
		if low, ok := impl.Lowest(f.r); !ok || (len(down) == 0) != slices.Equal(low, f.laid) {
			t.Fatal(impl.LaidText(f.r, f.laid), down)
		}
	}
	for _, f := range notSimpleTilings(t) {
		if down := impl.DownOf(f.r, f.laid); len(down) != 0 {
			t.Fatal(f, down)
		}
	}
}

func TestP94OnlyTheHighestTilingHasNoWayUp(t *testing.T) {
	for _, f := range simpleTilings() {
		up := impl.UpOf(f.r, f.laid)
		checkTurnsTo(t, f, up, 4)
		if high, ok := impl.Highest(f.r); !ok || (len(up) == 0) != slices.Equal(high, f.laid) {
			t.Fatal(impl.LaidText(f.r, f.laid), up)
		}
		both := append(impl.DownOf(f.r, f.laid), up...)
		slices.Sort(both)
		if !slices.Equal(both, impl.FlipsOf(f.r, f.laid)) {
			t.Fatal("together", impl.LaidText(f.r, f.laid), both)
		}
	}
	for _, f := range notSimpleTilings(t) {
		if up := impl.UpOf(f.r, f.laid); len(up) != 0 {
			t.Fatal(f, up)
		}
	}
}

func TestP93P94WaysOfTexts(t *testing.T) {
	for text, want := range map[string][2][]int{
		"ew":                  {nil, nil},
		"ewewew":              {nil, nil},
		"ew/ew":               {nil, {4}},
		"ss/nn":               {{4}, nil},
		"##/##":               {nil, nil},
		"...":                 {nil, nil},
		"ews/ewn":             {nil, {5}},
		"sss/nnn":             {{5}, {6}},
		"sew/new":             {{6}, nil},
		"ewew/ewew/ewew/ewew": {{11, 13}, {6, 8, 16, 18}},
		"ssss/nnnn/ssss/nnnn": {{6, 8, 16, 18}, {7, 17}},
		"ssssss/nnnnnn":       {{8, 10, 12}, {9, 11}},
		"sew/n.s/ewn":         {nil, nil},
		"ew.ss/ew.nn":         {nil, nil},
		"sewew/n.sew/ewnew":   {nil, nil},
		"ew##/ewew":           {nil, nil},
	} {
		r, laid, ok := impl.ReadLaid(text)
		down, up := impl.DownOf(r, laid), impl.UpOf(r, laid)
		if !ok || !slices.Equal(down, want[0]) || !slices.Equal(up, want[1]) {
			t.Error(text, ok, down, up)
		}
	}
}

// toldFall does the first flip down again and again.
func toldFall(r impl.Region, laid []int) ([]int, int) {
	for many := 0; ; many++ {
		down := toldRises(r, laid, -4)
		if len(down) == 0 {
			return laid, many
		}
		laid = down[0].after
	}
}

func TestP19WhoeverOnlyGoesDownArrives(t *testing.T) {
	for _, f := range simpleTilings() {
		low, many := impl.DownAll(f.r, f.laid)
		lowest, ok := impl.Lowest(f.r)
		if !ok || !slices.Equal(low, lowest) || many != impl.Apart(f.r, f.laid, lowest) {
			t.Fatal(impl.LaidText(f.r, f.laid), low, many)
		}
		if len(f.laid) > 12 {
			continue
		}
		if told, steps := toldFall(f.r, f.laid); !slices.Equal(low, told) || many != steps {
			t.Fatal("step by step", impl.LaidText(f.r, f.laid), low, many)
		}
	}
	for _, f := range notSimpleTilings(t) {
		if low, many := impl.DownAll(f.r, f.laid); many != 0 || len(low) != 0 {
			t.Fatal(f, low, many)
		}
	}
}

func TestP19FallsOfTexts(t *testing.T) {
	for _, c := range []struct {
		text string
		want string
		many int
	}{
		{"ew", "ew", 0},
		{"ew/ew", "ew/ew", 0},
		{"ss/nn", "ew/ew", 1},
		{".ew/.ew", ".ss/.nn", 1},
		{"sss/nnn", "ews/ewn", 1},
		{"sew/new", "ews/ewn", 2},
		{"sews/newn", "ewew/ewew", 3},
		{"ss/nn/ss/nn", "ew/ss/nn/ew", 3},
		{"ewew/ewew/ewew/ewew", "ewew/sews/newn/ewew", 3},
		{"ew./.ew", "ew./.ew", 0},
		{"##", "", 0},
		{"...", "", 0},
		{"sew/n.s/ewn", "", 0},
		{"ss.ss/nn.nn", "", 0},
		{"sewew/n.sew/ewnew", "", 0},
	} {
		r, laid, ok := impl.ReadLaid(c.text)
		low, many := impl.DownAll(r, laid)
		if !ok || impl.LaidText(r, low) != c.want || many != c.many || c.want == "" && len(low) != 0 {
			t.Error(c.text, ok, impl.LaidText(r, low), many)
		}
	}
}
