package tests

import (
	"math/rand"
	"slices"
	"testing"

	"loop.example/dominotilings/impl"
)

// checkFlip looks at what a flip that was done has changed, and does it once more.
func checkFlip(t *testing.T, f field, corner int, after []int) {
	t.Helper()
	if !impl.LaidOk(f.r, after) || impl.TilingOk(f.r, after) != isFull(f.r, f.laid) {
		t.Fatal("not right", f, corner, after)
	}
	if back, ok := impl.FlipOne(f.r, after, corner); !ok || !slices.Equal(back, f.laid) {
		t.Fatal("twice", f, corner, after, back)
	}
	square := squareAround(f.r, corner)
	for cell, way := range f.laid {
		if (way != after[cell]) != slices.Contains(square[:], placeOf(f.r, cell)) {
			t.Fatal("other cells", f, corner, after)
		}
	}
	more := impl.FlatMany(f.r, after) - impl.FlatMany(f.r, f.laid)
	if more != 2 && more != -2 || (more == 2) != (f.laid[indexOf(f.r, square[0])] == impl.ToNorth) {
		t.Fatal("flat ones", f, corner, after)
	}
}

func TestP17FlippedTwiceItIsAsBefore(t *testing.T) {
	for _, f := range flipFields(t) {
		all := dominoesOf(f.r, f.laid)
		for _, corner := range allCorners(f.r) {
			want, may := toldFlip(f.r, f.laid, all, corner)
			after, ok := impl.FlipOne(f.r, f.laid, corner)
			if ok != may || !slices.Equal(after, want) {
				t.Fatal(f, corner, after, ok)
			}
			if may {
				checkFlip(t, f, corner, after)
			}
		}
	}
}

func TestP17FlipsOfTexts(t *testing.T) {
	for _, c := range []struct {
		text   string
		corner int
		want   string
	}{
		{"ew/ew", 4, "ss/nn"},
		{"ss/nn", 4, "ew/ew"},
		{"ew/##", 4, ""},
		{"##/ew", 4, ""},
		{"s#/n#", 4, ""},
		{"#s/#n", 4, ""},
		{"##/##", 4, ""},
		{"ews/ewn", 5, "sss/nnn"},
		{"ews/ewn", 6, ""},
		{"sss/nnn", 6, "sew/new"},
		{"ew#/ew#", 5, "ss#/nn#"},
		{"ew./ew#", 5, "ss./nn#"},
		{".ss/.nn", 6, ".ew/.ew"},
		{".ss/.nn", 5, ""},
		{"#ew/ew#", 5, ""},
		{"#ew/ew#", 6, ""},
		{"s#/ns/#n", 4, ""},
		{"s#/ns/#n", 7, ""},
		{"ew/ss/nn", 4, "ew/ew/ew"},
		{"ew/ss/nn", 7, ""},
		{"sew/n.s/ewn", 5, ""},
		{"sewew/n.sew/ewnew", 16, "sewss/n.snn/ewnew"},
	} {
		r, laid, ok := impl.ReadLaid(c.text)
		if !ok {
			t.Fatal(c.text)
		}
		want := c.want
		if want == "" {
			want = c.text
		}
		after, done := impl.FlipOne(r, laid, c.corner)
		if impl.LaidText(r, after) != want || done != (c.want != "") || impl.FlipMay(r, laid, c.corner) != done {
			t.Error(c.text, c.corner, impl.LaidText(r, after), done)
		}
	}
}

func TestP17WrongListsAreNotFlipped(t *testing.T) {
	for _, f := range wrongFlips() {
		for _, corner := range allCorners(filled(6, 6, 0)) {
			if after, ok := impl.FlipOne(f.r, f.laid, corner); ok || len(after) != 0 {
				t.Fatal(f, corner, after)
			}
		}
	}
}

func TestP90SquaresOfTwoDominoesCanBeFlipped(t *testing.T) {
	for _, f := range flipFields(t) {
		all := dominoesOf(f.r, f.laid)
		for _, corner := range allCorners(f.r) {
			after, may := toldFlip(f.r, f.laid, all, corner)
			if impl.FlipMay(f.r, f.laid, corner) != may || may && !impl.FlipMay(f.r, after, corner) {
				t.Fatal(f, corner, may)
			}
		}
	}
	for _, f := range wrongFlips() {
		for _, corner := range allCorners(filled(6, 6, 0)) {
			if impl.FlipMay(f.r, f.laid, corner) {
				t.Fatal(f, corner)
			}
		}
	}
}

func TestP91FlipsAreTold(t *testing.T) {
	for _, f := range flipFields(t) {
		corners := impl.FlipsOf(f.r, f.laid)
		if !slices.Equal(corners, turnCorners(toldTurns(f.r, f.laid))) {
			t.Fatal(f, corners)
		}
		for _, corner := range allCorners(f.r) {
			if impl.FlipMay(f.r, f.laid, corner) != slices.Contains(corners, corner) {
				t.Fatal(f, corner, corners)
			}
		}
		if turned := impl.FlipsOf(impl.RegionTurn(f.r), impl.TilingTurn(f.r, f.laid)); len(turned) != len(corners) {
			t.Fatal("turned", f, corners, turned)
		}
	}
	for _, f := range wrongFlips() {
		if corners := impl.FlipsOf(f.r, f.laid); len(corners) != 0 {
			t.Fatal(f, corners)
		}
	}
}

func TestP91CornersOfTexts(t *testing.T) {
	for text, want := range map[string][]int{
		"#":                    nil,
		"......":               nil,
		"ewewew":               nil,
		"s/n/s/n":              nil,
		"##/##":                nil,
		"ew/ew":                {4},
		"sss/nnn":              {5, 6},
		"sss#/nnn#":            {6, 7},
		"ewew/ewew/ewew/ewew":  {6, 8, 11, 13, 16, 18},
		"sews/newn/sews/newn":  {7, 12, 17},
		"ewew/sews/newn/ewew":  {12},
		"ews/ssn/nns/ewn":      {9},
		"sew/n.s/ewn":          nil,
		"ew.ss/ew.nn":          {7, 10},
		"ewss../ewnnss/....nn": {12, 15, 17},
		"ssssss/nnnnnn":        {8, 9, 10, 11, 12},
		"sewew/n.sew/ewnew":    {10, 16},
		"##ew/##ew/####/ewew":  {18},
		".s./sns/nsn/.n.":      nil,
		"ew/ew/ew/ew/ew/ew":    {4, 7, 10, 13, 16},
	} {
		r, laid, ok := impl.ReadLaid(text)
		if !ok {
			t.Fatal(text)
		}
		if corners := impl.FlipsOf(r, laid); !slices.Equal(corners, want) {
			t.Error(text, corners)
		}
	}
}

// toldRun does flips one after the other, and counts them.
func toldRun(r impl.Region, laid []int, corners []int) ([]int, int) {
	many := 0
	for _, corner := range corners {
		after, done := toldFlip(r, laid, dominoesOf(r, laid), corner)
		laid = after
		if done {
			many++
		}
	}
	return laid, many
}

// someCorners returns a list of flips, also around corners at the edge and ones that are not there.
func someCorners(r impl.Region, dice *rand.Rand, many int) []int {
	var list []int
	far := allCorners(r)
	for range many {
		if dice.Intn(8) == 0 {
			list = append(list, far[dice.Intn(len(far))])
			continue
		}
		list = append(list, (1+dice.Intn(r.Tall))*(r.Wide+1)+dice.Intn(r.Wide+1))
	}
	return list
}

func checkRun(t *testing.T, f field, corners []int) {
	t.Helper()
	after, many := impl.FlipRun(f.r, f.laid, corners)
	want, done := toldRun(f.r, f.laid, corners)
	if many != done || !slices.Equal(after, want) {
		t.Fatal(f, corners, after, many, want, done)
	}
	if impl.TilingOk(f.r, after) != isFull(f.r, f.laid) || !impl.LaidOk(f.r, after) {
		t.Fatal("not right", f, corners, after)
	}
	for _, cut := range []int{0, len(corners) / 3, len(corners) / 2, len(corners)} {
		half, first := impl.FlipRun(f.r, f.laid, corners[:cut])
		whole, second := impl.FlipRun(f.r, half, corners[cut:])
		if first+second != many || !slices.Equal(whole, after) {
			t.Fatal("in two parts", f, corners, cut)
		}
	}
}

func TestP92FlipsKeepTilings(t *testing.T) {
	dice := rand.New(rand.NewSource(5))
	for i, f := range flipFields(t) {
		// Most lists of the small regions have few dominoes.
		if i%3 == 0 || isFull(f.r, f.laid) {
			checkRun(t, f, someCorners(f.r, dice, dice.Intn(12)))
		}
		if i%40 == 0 {
			checkRun(t, f, someCorners(f.r, dice, impl.MaxFlips))
			checkRun(t, f, nil)
		}
	}
	for _, f := range wrongFlips() {
		for _, corners := range [][]int{nil, {}, {4}, {5, 6}, {8, 8}, farNumbers()} {
			if after, many := impl.FlipRun(f.r, f.laid, corners); many != 0 || len(after) != 0 {
				t.Fatal(f, corners, after, many)
			}
		}
	}
}

func TestP92ListsOfManyFlips(t *testing.T) {
	r, laid, _ := impl.ReadLaid("ews/ewn")
	for _, corners := range [][]int{slices.Repeat([]int{5}, impl.MaxFlips), slices.Repeat([]int{-1}, impl.MaxFlips), slices.Repeat([]int{5, 6, 5, 100}, impl.MaxFlips/4)} {
		checkRun(t, field{r, laid}, corners)
		for _, one := range []int{5, 6, 0, -1} {
			longer := append(slices.Clone(corners), one)
			if after, many := impl.FlipRun(r, laid, longer); many != 0 || len(after) != 0 {
				t.Error(longer, after, many)
			}
		}
	}
	if after, many := impl.FlipRun(r, laid, make([]int, 1<<16)); many != 0 || len(after) != 0 {
		t.Error(after, many)
	}
	if after, many := impl.FlipRun(r, laid, slices.Repeat([]int{5}, 60)); many != 60 || impl.LaidText(r, after) != "ews/ewn" {
		t.Error(after, many)
	}
	if after, many := impl.FlipRun(r, laid, slices.Repeat([]int{5}, 59)); many != 59 || impl.LaidText(r, after) != "sss/nnn" {
		t.Error(after, many)
	}
}

func TestP92RunsOfTexts(t *testing.T) {
	for _, c := range []struct {
		text    string
		corners []int
		want    string
		many    int
	}{
		{"ews/ewn", nil, "ews/ewn", 0},
		{"ews/ewn", []int{6}, "ews/ewn", 0},
		{"ews/ewn", []int{6, 5, 6}, "sew/new", 2},
		{"ews/ewn", []int{5, 6, 5}, "sew/new", 2},
		{"ews/ewn", []int{5, 6, 6, 5}, "ews/ewn", 4},
		{"ews/ewn", []int{-1, 5, 12, 0, 100}, "sss/nnn", 1},
		{"ew#/ew#", []int{5, 6, 5, 5}, "ss#/nn#", 3},
		{"sew/n.s/ewn", []int{0, 5, 6, 9, 10}, "sew/n.s/ewn", 0},
		{"sewew/n.sew/ewnew", []int{16, 15, 10}, "sewss/n.snn/ewnew", 1},
		{"sewew/n.sew/ewnew", []int{10, 9, 16}, "sewew/n.ews/ewewn", 2},
		{"...", []int{0, 1}, "...", 0},
	} {
		r, laid, ok := impl.ReadLaid(c.text)
		after, many := impl.FlipRun(r, laid, c.corners)
		if !ok || impl.LaidText(r, after) != c.want || many != c.many {
			t.Error(c.text, c.corners, impl.LaidText(r, after), many)
		}
	}
}

func TestP96WhatIsFrozenInASimpleRegionIsAlone(t *testing.T) {
	for _, f := range flipFields(t) {
		frozen := impl.Frozen(f.r, f.laid)
		if frozen != (isFull(f.r, f.laid) && len(toldTurns(f.r, f.laid)) == 0) {
			t.Fatal(f, frozen)
		}
		if frozen && isSimple(f.r) && impl.TilingsMany(f.r) != 1 {
			t.Fatal("not alone", f)
		}
	}
	for _, f := range wrongFlips() {
		if impl.Frozen(f.r, f.laid) {
			t.Fatal(f)
		}
	}
}

func TestP96FrozenTexts(t *testing.T) {
	for text, want := range map[string]bool{
		".":                        true,
		"....../......":            true,
		"#":                        false,
		"##":                       false,
		"ew##":                     false,
		"ew":                       true,
		"ew/##":                    false,
		"ew/ew":                    false,
		"ss/nn":                    false,
		"sss/nnn":                  false,
		"ew./.ew":                  true,
		"ewewew":                   true,
		"sew/n.s/ewn":              true,
		"ews/s.n/new":              true,
		"sewew/n.sew/ewnew":        false,
		"sews/n..n/s..s/newn":      true,
		".s../sns./nsns/.nsn/..n.": true,
		"ew.ss/ew.nn":              false,
		"#ew#/ewew":                false,
		"sewew#/n.sew./ewnew.":     false,
	} {
		r, laid, ok := impl.ReadLaid(text)
		if frozen := impl.Frozen(r, laid); !ok || frozen != want {
			t.Error(text, ok, frozen)
		}
	}
}
