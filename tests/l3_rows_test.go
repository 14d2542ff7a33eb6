package tests

import (
	"testing"

	"loop.example/dominotilings/impl"
)

// countRows counts the tilings of a field of few rows column by column: for each set of rows in which a domino goes on into the next column, which is another way than the program's.
func countRows(rows int, columns int) int {
	counts := make([]int, 1<<rows)
	counts[0] = 1
	for range columns {
		next := make([]int, len(counts))
		for from, many := range counts {
			for to := range next {
				if fitsColumn(rows, from, to) {
					next[to] += many
				}
			}
		}
		counts = next
	}
	return counts[0]
}

// fitsColumn reports whether upright dominoes cover what is left of a column between dominoes that come from the west and those that go on to the east.
func fitsColumn(rows int, from int, to int) bool {
	if from&to != 0 {
		return false
	}
	run := 0
	for y := range rows {
		if (from|to)>>y&1 == 0 {
			run++
			continue
		}
		if run%2 != 0 {
			return false
		}
		run = 0
	}
	return run%2 == 0
}

func TestP80FieldsOfTwoRows(t *testing.T) {
	for columns := 1; columns <= impl.MaxSide; columns++ {
		if many := impl.TwoRows(columns); many != impl.TilingsMany(impl.RegionBox(columns, 2)) {
			t.Error(columns, many)
		}
	}
	for columns := range 61 {
		if many := impl.TwoRows(columns); many != countRows(2, columns) {
			t.Error(columns, many)
		}
	}
	for columns := range 61 {
		for west := 1; west < columns; west++ {
			east := columns - west
			if impl.TwoRows(columns) != impl.TwoRows(west)*impl.TwoRows(east)+impl.TwoRows(west-1)*impl.TwoRows(east-1) {
				t.Error(west, east)
			}
		}
	}
}

func TestP80NumbersOfColumns(t *testing.T) {
	for columns, want := range map[int]int{0: 1, 1: 1, 2: 2, 3: 3, 4: 5, 5: 8, 6: 13, 59: 1548008755920, 60: 2504730781961, 61: -1, 62: -1, -1: -1, -2: -1} {
		if many := impl.TwoRows(columns); many != want {
			t.Error(columns, many)
		}
	}
	for _, columns := range []int{-1 << 63, -1<<63 + 1, -1 << 32, -61, 100, 1 << 32, 1<<63 - 1} {
		if many := impl.TwoRows(columns); many != -1 {
			t.Error(columns, many)
		}
	}
}

func TestP81FieldsOfThreeRows(t *testing.T) {
	for columns := 1; columns <= impl.MaxSide; columns++ {
		if many := impl.ThreeRows(columns); many != impl.TilingsMany(impl.RegionBox(columns, 3)) {
			t.Error(columns, many)
		}
	}
	for columns := range 41 {
		many := impl.ThreeRows(columns)
		if many != countRows(3, columns) || columns%2 != 0 && many != 0 {
			t.Error(columns, many)
		}
		if columns >= 4 && columns%2 == 0 && many != 4*impl.ThreeRows(columns-2)-impl.ThreeRows(columns-4) {
			t.Error(columns, many)
		}
	}
}

func TestP81NumbersOfColumns(t *testing.T) {
	for columns, want := range map[int]int{0: 1, 1: 0, 2: 3, 3: 0, 4: 11, 5: 0, 6: 41, 39: 0, 41: -1, 42: -1, -1: -1, -2: -1} {
		if many := impl.ThreeRows(columns); many != want {
			t.Error(columns, many)
		}
	}
	for _, columns := range []int{-1 << 63, -1<<63 + 1, -1 << 32, -41, 60, 100, 1 << 32, 1<<63 - 1} {
		if many := impl.ThreeRows(columns); many != -1 {
			t.Error(columns, many)
		}
	}
}

func TestMatrixConstant(t *testing.T) {
	if impl.MaxRows != 12 {
		t.Error(impl.MaxRows)
	}
}
