package tests

import (
	"math/rand"
	"slices"
	"testing"

	"loop.example/dominotilings/impl"
)

// expand is the sum of the document over all ways to take one number from each row: for each set of columns that the rows so far have taken it keeps the sum, with the other sign for each greater column that was taken before.
func expand(m [][]int) int {
	sums := make([]int, 1<<len(m))
	sums[0] = 1
	for taken := range sums {
		many := 0
		for column := range m {
			many += taken >> column & 1
		}
		for column := range m {
			if taken>>column&1 == 1 {
				continue
			}
			product := sums[taken] * m[many][column]
			for greater := column + 1; greater < len(m); greater++ {
				if taken>>greater&1 == 1 {
					product = -product
				}
			}
			sums[taken|1<<column] += product
		}
	}
	return sums[len(sums)-1]
}

func square(rows int) [][]int {
	m := make([][]int, rows)
	for i := range m {
		m[i] = make([]int, rows)
	}
	return m
}

func unit(rows int) [][]int {
	m := square(rows)
	for i := range m {
		m[i][i] = 1
	}
	return m
}

func copyMatrix(m [][]int) [][]int {
	c := make([][]int, len(m))
	for i, row := range m {
		c[i] = slices.Clone(row)
	}
	return c
}

// numberedMatrix returns the matrix with the digits of a number to the base 3, less 1 each.
func numberedMatrix(rows int, number int) [][]int {
	m := square(rows)
	for i := range m {
		for j := range m[i] {
			m[i][j] = number%3 - 1
			number /= 3
		}
	}
	return m
}

func someMatrix(rows int, dice *rand.Rand, numbers []int) [][]int {
	m := square(rows)
	for i := range m {
		for j := range m[i] {
			m[i][j] = numbers[dice.Intn(len(numbers))]
		}
	}
	return m
}

// greatestMatrix returns a matrix of twelve rows whose determinant is as great as can be: any two rows differ in half of their numbers. It tells which numbers are squares by 11.
func greatestMatrix() [][]int {
	m := square(12)
	for i := range m {
		for j := range m[i] {
			m[i][j] = -1
			if i == 0 || j == 0 || slices.Contains([]int{1, 3, 4, 5, 9}, (j-i+11)%11) {
				m[i][j] = 1
			}
		}
	}
	return m
}

// validMatrices returns all matrices of at most three rows, and some of every number of rows: with few numbers other than 0, with many and with all.
func validMatrices() [][][]int {
	list := [][][]int{nil, {}, greatestMatrix()}
	for rows, many := range []int{1, 3, 81, 19683} {
		for number := range many {
			list = append(list, numberedMatrix(rows, number))
		}
	}
	dice := rand.New(rand.NewSource(4))
	for rows := 4; rows <= impl.MaxRows; rows++ {
		for _, numbers := range [][]int{{-1, 0, 0, 0, 1}, {-1, 0, 1}, {-1, 1}, {0, 1}, {0, 0, 1}} {
			for range 4 {
				list = append(list, someMatrix(rows, dice, numbers))
			}
		}
		list = append(list, square(rows))
	}
	return list
}

// wrongMatrices returns matrices that are not square, have too many rows, or a number that is none.
func wrongMatrices() [][][]int {
	list := [][][]int{
		{{}}, {nil}, {{}, {}}, {{1, 0}}, {{1}, {0}}, {{1}, {0, 1}}, {{1, 0}, {0}}, {{1, 0}, {0, 1, 0}}, {{1, 0, 0}, {0, 1, 0}},
		{{1, 0}, {0, 1}, {0, 0}}, {{1, 0}, nil}, {nil, {1, 0}}, {{1, 0, 0}, {0, 1, 0}, {0, 0}},
		square(13), unit(13), unit(14), square(100),
	}
	for _, number := range append(farNumbers(), -2, 2, 3) {
		for rows := 1; rows <= impl.MaxRows; rows++ {
			for _, at := range [][2]int{{0, 0}, {0, rows - 1}, {rows - 1, 0}, {rows - 1, rows - 1}, {rows / 2, rows / 2}} {
				if number == -1 {
					continue
				}
				m := unit(rows)
				m[at[0]][at[1]] = number
				list = append(list, m)
			}
		}
	}
	return list
}

func TestP9ADeterminantCountsTilings(t *testing.T) {
	same, fewer := 0, 0
	for _, r := range validRegions() {
		many, det := impl.TilingsMany(r), impl.TilingsDet(r)
		if det < 0 || det > many || (many-det)%2 != 0 || countHoles(r) == 0 && det != many {
			t.Fatal(r, many, det)
		}
		if 2*countDark(r) != countCells(r) && det != 0 {
			t.Fatal("a region that is not balanced", r, det)
		}
		if countHoles(r) > 0 && det == many {
			same++
		}
		if det != many {
			fewer++
		}
	}
	if same == 0 || fewer == 0 {
		t.Error("holes make no difference, or always one", same, fewer)
	}
	for _, r := range badRegions() {
		if det := impl.TilingsDet(r); det != -1 {
			t.Error(r, det)
		}
	}
}

func TestP9TheDeterminantHasNoSign(t *testing.T) {
	negative := 0
	for _, r := range validRegions() {
		if 2*countDark(r) != countCells(r) {
			continue
		}
		det := impl.Det(impl.SignMatrix(r))
		if impl.TilingsDet(r) != max(det, -det) {
			t.Fatal(r, det)
		}
		if det < 0 {
			negative++
		}
	}
	if negative == 0 {
		t.Error("no matrix has a determinant below 0")
	}
}

func TestP9DeterminantsOfRegions(t *testing.T) {
	for text, want := range map[string]int{
		".":                             1,
		"....../......":                 1,
		"#":                             0,
		"###":                           0,
		"##":                            1,
		"#..#":                          0,
		"######":                        1,
		"##/##":                         2,
		"##.##/##.##":                   4,
		"###/#.#/###":                   0,
		"####/#..#/####":                2,
		"####/#..#/#..#/####":           2,
		"#####/#...#/#####":             0,
		"#####/#...#/#...#/#####":       2,
		"#####/##.##/#####/#####/#####": 0,
		"#####/#####/##.##/#####/#####": 192,
		"######/######/######/######":   281,
	} {
		r := region(t, text)
		if det := impl.TilingsDet(r); det != want {
			t.Error(text, det)
		}
	}
}

func TestP77MatricesAreSquare(t *testing.T) {
	if !impl.MatrixValid(nil) || !impl.MatrixValid([][]int{}) {
		t.Error("the matrix without rows is one")
	}
	for _, m := range validMatrices() {
		if !impl.MatrixValid(m) {
			t.Fatal(m)
		}
		if len(m) >= 2 && impl.MatrixValid(m[:len(m)-1]) {
			t.Fatal("without its last row", m)
		}
		if len(m) > 0 && impl.MatrixValid(append(slices.Clone(m), m[0])) {
			t.Fatal("with a row more", m)
		}
	}
	for _, m := range wrongMatrices() {
		if impl.MatrixValid(m) {
			t.Error(m)
		}
	}
}

func TestP78Determinants(t *testing.T) {
	for _, m := range validMatrices() {
		if det := impl.Det(m); det != expand(m) {
			t.Fatal(m, det, expand(m))
		}
	}
	for _, m := range wrongMatrices() {
		if det := impl.Det(m); det != 0 {
			t.Error(m, det)
		}
	}
	if det := impl.Det(nil); det != 1 {
		t.Error("no rows", det)
	}
	if det := impl.Det(greatestMatrix()); max(det, -det) != 12*12*12*12*12*12 {
		t.Error("the greatest one", det)
	}
}

func TestP78DeterminantsTurnWithRows(t *testing.T) {
	for _, m := range validMatrices() {
		det := impl.Det(m)
		turned := square(len(m))
		for i, row := range m {
			for j, number := range row {
				turned[j][i] = number
			}
		}
		if impl.Det(turned) != det {
			t.Fatal("rows as columns", m, det)
		}
		for i := range m[:max(len(m)-1, 0)] {
			other := copyMatrix(m)
			other[i], other[i+1] = other[i+1], other[i]
			if impl.Det(other) != -det {
				t.Fatal("exchanged", m, i, det)
			}
			other[i] = slices.Clone(other[i+1])
			if impl.Det(other) != 0 {
				t.Fatal("equal rows", other)
			}
		}
	}
}

func TestP78DeterminantsOfMatrices(t *testing.T) {
	for _, c := range []struct {
		m    [][]int
		want int
	}{
		{[][]int{{0}}, 0},
		{[][]int{{-1}}, -1},
		{[][]int{{1}}, 1},
		{[][]int{{0, 1}, {1, 0}}, -1},
		{[][]int{{1, 1}, {-1, 1}}, 2},
		{[][]int{{0, 1, 0}, {0, 0, 1}, {1, 0, 0}}, 1},
		{[][]int{{0, 0, 1}, {0, 1, 0}, {1, 0, 0}}, -1},
		{[][]int{{1, 1, 1}, {1, 1, -1}, {1, -1, 1}}, -4},
		{[][]int{{1, 1, 0}, {1, 1, 1}, {0, 1, 1}}, -1},
		{[][]int{{1, 1, 1, 1}, {1, -1, 1, -1}, {1, 1, -1, -1}, {1, -1, -1, 1}}, 16},
		{[][]int{{0, 0, 0, 1}, {0, 0, 1, 0}, {0, 1, 0, 0}, {1, 0, 0, 0}}, 1},
	} {
		if det := impl.Det(c.m); det != c.want || expand(c.m) != c.want {
			t.Error(c.m, det, expand(c.m))
		}
	}
}

// coloured returns the places of a region of one colour, by their indices.
func coloured(r impl.Region, dark bool) []place {
	var list []place
	for cell, has := range r.Cells {
		p := placeOf(r, cell)
		if has && ((p.x+p.y)%2 == 0) == dark {
			list = append(list, p)
		}
	}
	return list
}

// signBetween is the number of the matrix for a dark place and a light one.
func signBetween(dark place, light place) int {
	for _, way := range allWays() {
		if aside(dark, way) != light {
			continue
		}
		if dark.x == light.x && dark.x%2 == 1 {
			return -1
		}
		return 1
	}
	return 0
}

func TestP79TheMatrixTellsNeighbours(t *testing.T) {
	for _, r := range validRegions() {
		m := impl.SignMatrix(r)
		dark, light := coloured(r, true), coloured(r, false)
		if len(dark) != len(light) {
			if len(m) != 0 {
				t.Fatal("not balanced", r, m)
			}
			continue
		}
		if !impl.MatrixValid(m) || 2*len(m) != countCells(r) {
			t.Fatal(r, m)
		}
		pairs := 0
		for i, row := range m {
			beside := 0
			for j, number := range row {
				if number != signBetween(dark[i], light[j]) {
					t.Fatal(r, i, j, number)
				}
				beside += number * number
			}
			if beside > 4 {
				t.Fatal(r, i, row)
			}
			pairs += beside
		}
		if pairs != countPairs(r) {
			t.Fatal(r, m, pairs)
		}
	}
	for _, r := range badRegions() {
		if m := impl.SignMatrix(r); len(m) != 0 {
			t.Error(r, m)
		}
	}
}

func TestP79MatricesOfRegions(t *testing.T) {
	for text, want := range map[string][][]int{
		".":           nil,
		"#":           nil,
		"###/###/###": nil,
		"##":          {{1}},
		"#/#":         {{1}},
		".#/.#":       {{-1}},
		"#..#":        {{0}},
		"##/##":       {{1, 1}, {-1, 1}},
		"####":        {{1, 0}, {1, 1}},
		"###/###":     {{1, 1, 0}, {1, 0, 1}, {-1, 1, 1}},
		"###/#.#/###": {{1, 1, 0, 0}, {1, 0, 1, 0}, {0, 1, 0, 1}, {0, 0, 1, 1}},
		"##.##/##.##": {{1, 0, 1, 0}, {0, 1, 0, 1}, {-1, 0, 1, 0}, {0, -1, 0, 1}},
	} {
		r := region(t, text)
		if m := impl.SignMatrix(r); !sameLists(m, want) {
			t.Error(text, m)
		}
	}
}
