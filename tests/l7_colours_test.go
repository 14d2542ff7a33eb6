package tests

import (
	"slices"
	"testing"

	"loop.example/dominotilings/impl"
)

func TestP108AllColoursAreAllCells(t *testing.T) {
	for _, r := range obstructed(t) {
		for number := 1; number <= impl.MaxBar; number++ {
			sum := 0
			for rest, told := range toldColours(r, number) {
				many := impl.ColourMany(r, number, rest)
				if many != told {
					t.Fatal(impl.RegionText(r), number, rest, many)
				}
				sum += many
			}
			if sum != countCells(r) {
				t.Fatal(impl.RegionText(r), number, sum)
			}
		}
		if impl.ColourMany(r, 2, 0) != impl.DarkMany(r) {
			t.Fatal(impl.RegionText(r))
		}
	}
}

func TestP108OtherNumbersHaveNoColours(t *testing.T) {
	for _, r := range append(lackRegions(t), filled(6, 4, 24), filled(1, 1, 1)) {
		for _, number := range notBars() {
			for _, rest := range append(farNumbers(), 0, 1, 2, 3, 4, number-1) {
				if many := impl.ColourMany(r, number, rest); many != -1 {
					t.Fatal(impl.RegionText(r), number, rest, many)
				}
			}
		}
		for number := 1; number <= impl.MaxBar; number++ {
			for _, rest := range append(farNumbers(), number, number+1, -number, -2) {
				if many := impl.ColourMany(r, number, rest); many != -1 {
					t.Fatal(impl.RegionText(r), number, rest, many)
				}
			}
		}
	}
	for _, r := range badRegions() {
		for number := range impl.MaxBar + 2 {
			for rest := range number + 1 {
				if many := impl.ColourMany(r, number, rest); many != -1 {
					t.Error(r, number, rest, many)
				}
			}
		}
	}
}

func TestP108ColoursOfTexts(t *testing.T) {
	for text, want := range map[string][4][]int{
		".":                    {{0}, {0, 0}, {0, 0, 0}, {0, 0, 0, 0}},
		"#":                    {{1}, {1, 0}, {1, 0, 0}, {1, 0, 0, 0}},
		"####":                 {{4}, {2, 2}, {2, 1, 1}, {1, 1, 1, 1}},
		"#/#/#/#":              {{4}, {2, 2}, {2, 1, 1}, {1, 1, 1, 1}},
		"###/###/###":          {{9}, {5, 4}, {3, 3, 3}, {2, 2, 3, 2}},
		"....##/....../####..": {{6}, {3, 3}, {3, 2, 1}, {1, 1, 2, 2}},
		"#.../.#../..#./...#": {
			{4}, {0, 4}, {4, 0, 0}, {0, 0, 0, 4},
		},
	} {
		r := region(t, text)
		for i, colours := range want {
			for rest, told := range colours {
				if many := impl.ColourMany(r, i+1, rest); many != told {
					t.Error(text, i+1, rest, many)
				}
			}
		}
	}
}

func TestP30BarsHaveEveryColourOnce(t *testing.T) {
	covered, even := 0, 0
	for _, r := range obstructed(t) {
		for long := 1; long <= impl.MaxBar; long++ {
			colours := toldColours(r, long)
			same := slices.Min(colours) == slices.Max(colours)
			if impl.ColoursEven(r, long) != same {
				t.Fatal(impl.RegionText(r), long, same)
			}
			many := impl.BarsMany(r, long)
			if many > 0 && (!same || countCells(r)%long != 0) {
				t.Fatal("covered", impl.RegionText(r), long, many)
			}
			if many > 0 && long > 2 {
				covered++
			}
			if many == 0 && same {
				even++
			}
		}
	}
	if covered == 0 || even == 0 {
		t.Error("bars cover nothing, or all where colours are as many", covered, even)
	}
}

func TestP30OtherArgumentsAreNotEven(t *testing.T) {
	for _, r := range append(lackRegions(t), filled(6, 4, 24), filled(6, 6, 0)) {
		for _, number := range notBars() {
			if impl.ColoursEven(r, number) {
				t.Fatal(impl.RegionText(r), number)
			}
		}
	}
	for _, r := range badRegions() {
		for number := range impl.MaxBar + 2 {
			if impl.ColoursEven(r, number) {
				t.Error(r, number)
			}
		}
	}
}

func TestP30ColoursOfTexts(t *testing.T) {
	for text, want := range map[string][4]bool{
		".":              {true, true, true, true},
		"#":              {true, false, false, false},
		"##":             {true, true, false, false},
		"###":            {true, false, true, false},
		"####":           {true, true, false, true},
		"###/###":        {true, true, true, false},
		"##/##":          {true, true, false, false},
		"#..#":           {true, true, false, false},
		"###/###/###":    {true, false, true, false},
		"####/####":      {true, true, false, true},
		"######":         {true, true, true, false},
		"#.#":            {true, false, false, false},
		"#/#/.":          {true, true, false, false},
		"####/####/####": {true, true, true, true},
		"######/######":  {true, true, true, false},
		"##./###/..#":    {true, true, false, false},
		".#../..../...#": {true, false, false, false},
	} {
		r := region(t, text)
		for i, even := range want {
			if impl.ColoursEven(r, i+1) != even {
				t.Error(text, i+1, !even)
			}
		}
	}
}

func TestP31BarsAreTold(t *testing.T) {
	for _, r := range obstructed(t) {
		for long := 1; long <= impl.MaxBar; long++ {
			many := impl.BarsMany(r, long)
			if many != toldBars(r, long) {
				t.Fatal(impl.RegionText(r), long, many)
			}
			if turned := impl.BarsMany(impl.RegionTurn(r), long); turned != many {
				t.Fatal("turned", impl.RegionText(r), long, many, turned)
			}
		}
		if impl.BarsMany(r, 1) != 1 || impl.BarsMany(r, 2) != impl.TilingsMany(r) {
			t.Fatal(impl.RegionText(r), impl.BarsMany(r, 1), impl.BarsMany(r, 2))
		}
	}
}

func TestP31BarsFillABoxOnlyAlongASide(t *testing.T) {
	for wide := 1; wide <= 6; wide++ {
		for tall := 1; tall <= 6 && wide*tall <= 24; tall++ {
			box := filled(wide, tall, wide*tall)
			for long := 1; long <= impl.MaxBar; long++ {
				many := impl.BarsMany(box, long)
				if (many > 0) != (wide%long == 0 || tall%long == 0) || many != toldBars(box, long) {
					t.Error(wide, tall, long, many)
				}
			}
		}
	}
}

func TestP31OtherArgumentsHaveNoBars(t *testing.T) {
	for _, r := range append(lackRegions(t), filled(6, 4, 24), filled(1, 1, 1), filled(5, 1, 5)) {
		for _, long := range notBars() {
			if many := impl.BarsMany(r, long); many != -1 {
				t.Fatal(impl.RegionText(r), long, many)
			}
		}
	}
	for _, r := range badRegions() {
		for long := range impl.MaxBar + 2 {
			if many := impl.BarsMany(r, long); many != -1 {
				t.Error(r, long, many)
			}
		}
	}
}

func TestP31BarsOfTexts(t *testing.T) {
	for text, want := range map[string][4]int{
		".":                             {1, 1, 1, 1},
		"....../....../......":          {1, 1, 1, 1},
		"#":                             {1, 0, 0, 0},
		"##":                            {1, 1, 0, 0},
		"#/#/#":                         {1, 0, 1, 0},
		"####":                          {1, 1, 0, 1},
		"#/#/#/#":                       {1, 1, 0, 1},
		"##/##":                         {1, 2, 0, 0},
		"###/###":                       {1, 3, 1, 0},
		"###/###/###":                   {1, 0, 2, 0},
		"####/####/####":                {1, 11, 3, 1},
		"####/####/####/####":           {1, 36, 0, 2},
		"######/######/######":          {1, 41, 6, 0},
		"######/######/######/######":   {1, 281, 13, 4},
		"###./####/.###":                {1, 5, 0, 0},
		"###/#.#/###":                   {1, 2, 0, 0},
		"####/#..#/#..#/####":           {1, 2, 2, 0},
		"#####/#...#/#...#/#...#/#####": {1, 2, 0, 2},
		"###.../...###":                 {1, 0, 1, 0},
		"##.##/.....":                   {1, 1, 0, 0},
	} {
		r := region(t, text)
		for i, told := range want {
			if many := impl.BarsMany(r, i+1); many != told {
				t.Error(text, i+1, many)
			}
		}
	}
}
