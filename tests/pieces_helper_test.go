package tests

import (
	"math"
	"math/rand"
	"slices"
	"strings"
	"sync"

	"loop.example/dominotilings/impl"
)

// paper is how many columns and rows a drawing has.
const paper = 5

// pieceOf reads a piece that a test draws, its rows from the north to the south with slashes between them. Its cells come in the order in which they are read, which is not that of the program.
func pieceOf(text string) []impl.Cell {
	var cells []impl.Cell
	rows := strings.Split(text, "/")
	for i, row := range rows {
		for x, letter := range row {
			if letter == '#' {
				cells = append(cells, impl.Cell{Column: x, Row: len(rows) - 1 - i})
			}
		}
	}
	return cells
}

// drawing draws cells in the south-west of a paper, its rows from the south: of two drawings of as many cells the lesser one is that of the form that comes first. It is "" for cells that do not fit on the paper.
func drawing(cells []impl.Cell) string {
	west, south := math.MaxInt, math.MaxInt
	for _, c := range cells {
		west, south = min(west, c.Column), min(south, c.Row)
	}
	letters := []byte(strings.Repeat(".", paper*paper))
	for _, c := range cells {
		x, y := c.Column-west, c.Row-south
		if x >= paper || y >= paper {
			return ""
		}
		letters[y*paper+x] = '#'
	}
	return string(letters)
}

func drawings(pieces [][]impl.Cell) []string {
	var list []string
	for _, p := range pieces {
		list = append(list, drawing(p))
	}
	return list
}

// undrawn returns the cells of a drawing, row by row from the south, each row from the west.
func undrawn(text string) []impl.Cell {
	var cells []impl.Cell
	for i, letter := range text {
		if letter == '#' {
			cells = append(cells, impl.Cell{Column: i % paper, Row: i / paper})
		}
	}
	return cells
}

// broughtBy returns the cells in the columns m[0]x+m[1]y and the rows m[2]x+m[3]y.
func broughtBy(cells []impl.Cell, m [4]int) []impl.Cell {
	var list []impl.Cell
	for _, c := range cells {
		list = append(list, impl.Cell{Column: m[0]*c.Column + m[1]*c.Row, Row: m[2]*c.Column + m[3]*c.Row})
	}
	return list
}

// quarterTurn turns from the east to the north, and eastToWest mirrors.
func quarterTurn() [4]int {
	return [4]int{0, -1, 1, 0}
}

func eastToWest() [4]int {
	return [4]int{-1, 0, 0, 1}
}

// eightWays are all ways to turn and to mirror.
func eightWays() [][4]int {
	return [][4]int{
		{1, 0, 0, 1}, {0, -1, 1, 0}, {-1, 0, 0, -1}, {0, 1, -1, 0},
		{-1, 0, 0, 1}, {0, 1, 1, 0}, {1, 0, 0, -1}, {0, -1, -1, 0},
	}
}

// toldForms returns the drawings of all forms of a piece, in order.
func toldForms(p []impl.Cell) []string {
	var forms []string
	for _, m := range eightWays() {
		forms = append(forms, drawing(broughtBy(p, m)))
	}
	slices.Sort(forms)
	return slices.Compact(forms)
}

func shifted(p []impl.Cell, east int, north int) []impl.Cell {
	var list []impl.Cell
	for _, c := range p {
		list = append(list, impl.Cell{Column: c.Column + east, Row: c.Row + north})
	}
	return list
}

// grownBy returns the drawings of all forms with one cell more than one has.
func grownBy(text string) []string {
	var list []string
	cells := undrawn(text)
	for _, c := range cells {
		for _, way := range allWays() {
			p := aside(place{c.Column, c.Row}, way)
			next := impl.Cell{Column: p.x, Row: p.y}
			if !slices.Contains(cells, next) {
				list = append(list, drawing(append(slices.Clone(cells), next)))
			}
		}
	}
	return list
}

// formsWith returns the drawings of all forms with so many cells, each form of each piece once, in order: there are 1, 2, 6, 19 and 63.
func formsWith(many int) []string {
	list := []string{drawing([]impl.Cell{{}})}
	for range many - 1 {
		var further []string
		for _, text := range list {
			further = append(further, grownBy(text)...)
		}
		slices.Sort(further)
		list = slices.Compact(further)
	}
	return list
}

// toldPieces returns the drawings of the first forms of all pieces with so many cells, in order.
func toldPieces(many int) []string {
	var list []string
	for _, text := range formsWith(many) {
		if toldForms(undrawn(text))[0] == text {
			list = append(list, text)
		}
	}
	return list
}

// mixed returns the cells of a piece in another order.
func mixed(p []impl.Cell, dice *rand.Rand) []impl.Cell {
	list := slices.Clone(p)
	dice.Shuffle(len(list), func(i int, j int) { list[i], list[j] = list[j], list[i] })
	return list
}

// room returns the greatest column and the greatest row of cells of a drawing.
func room(cells []impl.Cell) (int, int) {
	east, north := 0, 0
	for _, c := range cells {
		east, north = max(east, c.Column), max(north, c.Row)
	}
	return east, north
}

// allForms returns all forms of all pieces, at all corners of where pieces may be and in between, their cells in several orders.
var allForms = sync.OnceValue(func() [][]impl.Cell {
	var list [][]impl.Cell
	dice := rand.New(rand.NewSource(8))
	for many := 1; many <= impl.MaxPiece; many++ {
		for _, text := range formsWith(many) {
			cells := undrawn(text)
			east, north := room(cells)
			for _, x := range []int{0, -impl.MaxFar, impl.MaxFar - east, dice.Intn(8) - 4} {
				for _, y := range []int{0, -impl.MaxFar, impl.MaxFar - north, dice.Intn(8) - 4} {
					list = append(list, mixed(shifted(cells, x, y), dice))
				}
			}
			slices.Reverse(cells)
			list = append(list, cells)
		}
	}
	return list
})

// isPiece is PieceValid: cells side by side take the number of each other until nothing changes.
func isPiece(p []impl.Cell) bool {
	if len(p) == 0 || len(p) > 5 {
		return false
	}
	numbers := map[place]int{}
	for i, c := range p {
		if c.Column < -9 || c.Column > 9 || c.Row < -9 || c.Row > 9 {
			return false
		}
		numbers[place{c.Column, c.Row}] = i
	}
	for range p {
		for at := range numbers {
			for _, way := range allWays() {
				if other, there := numbers[aside(at, way)]; there {
					numbers[at] = min(numbers[at], other)
				}
			}
		}
	}
	least := map[int]bool{}
	for _, number := range numbers {
		least[number] = true
	}
	return len(numbers) == len(p) && len(least) == 1
}

// farCells are cells that are too far away, alone and side by side, some so far that differences and squares of them are no longer right.
func farCells() [][]impl.Cell {
	var list [][]impl.Cell
	far := []int{math.MinInt, math.MinInt + 1, -1 << 32, -11, -10, 10, 11, 1 << 31, 1 << 32, math.MaxInt - 1, math.MaxInt}
	for _, n := range far {
		for _, m := range append(far, -9, 0, 9) {
			list = append(list, []impl.Cell{{Column: n, Row: m}}, []impl.Cell{{Column: m, Row: n}})
		}
		list = append(list,
			[]impl.Cell{{Column: n}, {Column: n + 1}}, []impl.Cell{{Row: n}, {Row: n + 1}},
			[]impl.Cell{{Column: n}, {Column: n, Row: 1}}, []impl.Cell{{Row: n}, {Column: 1, Row: n}},
			[]impl.Cell{{}, {Column: n, Row: 1}}, []impl.Cell{{}, {Column: 1, Row: n}},
			[]impl.Cell{{}, {Column: 1}, {Column: n}}, []impl.Cell{{Row: n}, {}, {Column: 1}},
		)
	}
	return append(list,
		[]impl.Cell{{Column: 9}, {Column: 10}}, []impl.Cell{{Column: -9}, {Column: -10}},
		[]impl.Cell{{Row: 10}, {Row: 9}}, []impl.Cell{{Row: -10}, {Row: -9}},
		[]impl.Cell{{Column: 8, Row: 9}, {Column: 9, Row: 9}, {Column: 10, Row: 9}},
	)
}

// badPieces returns lists of cells that are no pieces, each for one reason or another.
func badPieces() [][]impl.Cell {
	list := [][]impl.Cell{
		nil, {}, make([]impl.Cell, 2), make([]impl.Cell, 5), make([]impl.Cell, 6),
		{{}, {Column: 1}, {}}, {{}, {Column: 1}, {Column: 1}}, {{}, {Column: 1}, {Column: 2}, {Column: 1}}, {{Row: 2}, {Row: 2}, {Row: 1}, {Row: 3}},
		{{}, {Column: 1}, {Column: 2}, {Column: 3}, {}}, {{}, {Column: 1}, {Column: 2}, {Column: 3}, {Column: 4}, {}},
		{{Column: -9, Row: -9}, {Column: 9, Row: 9}}, {{Column: 9}, {Column: -9, Row: 1}}, {{Column: -9}, {Column: 9}},
	}
	for _, text := range []string{
		"######", "###/###", "#/#/#/#/#/#", "##/##/##", "#####/#....", ".##/##./.##", "#####/#####/#####/#####/#####",
		"#./.#", ".#/#.", "#.#", "#/./#", "#..#", "##./..#", "#../.##", "##.##", "##./##./..#", "#.#/.#.", "#.#/.#./#.#",
		"###/.../###", "##/../##", "#.#/#.#", "####./....#", "##.#", "#...#", "..#/.#./#..", "#.../.###/.#..",
	} {
		p := pieceOf(text)
		list = append(list, p, shifted(p, -9, 3), shifted(p, 2, -9))
		slices.Reverse(p)
		list = append(list, p)
	}
	return append(list, farCells()...)
}
