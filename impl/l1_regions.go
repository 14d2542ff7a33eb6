package impl

import (
	"slices"
	"strings"
)

// MaxSide is the maximum number of cells of a side of a field, and MaxCells that of cells of a region.
const (
	MaxSide  = 6
	MaxCells = 24
)

// Region has a field of so many cells from the west to the east (Wide) and from the south to the north (Tall), and for each cell whether it belongs to the region, row by row from the south, each row from the west.
type Region struct {
	Wide  int
	Tall  int
	Cells []bool
}

// RegionValid reports whether a region has a Wide and a Tall in 1..MaxSide, an entry for each of the Wide times Tall cells, and at most MaxCells cells that belong to it.
func RegionValid(r Region) bool {
	if !sidesOk(r.Wide, r.Tall) || len(r.Cells) != r.Wide*r.Tall {
		return false
	}
	return cellsIn(r) <= MaxCells
}

// RegionBox returns the region to which all cells of a field with sides in 1..MaxSide belong; the zero value if it is not valid (RegionValid), and for other sides.
func RegionBox(wide int, tall int) Region {
	if !sidesOk(wide, tall) || wide*tall > MaxCells {
		return Region{}
	}
	r := bareField(wide, tall)
	for cell := range r.Cells {
		r.Cells[cell] = true
	}
	return r
}

// RegionAt reports whether the cell in the x-th column from the west and the y-th row from the south, both from 0 on, belongs to a valid region (RegionValid); false for cells that are not in its field, and for other regions.
func RegionAt(r Region, x int, y int) bool {
	return RegionValid(r) && hasCell(r, x, y)
}

// RegionSet returns a valid region in which a cell, told by its index, belongs to it or not, as is told, and true; the zero value and false if there is no such cell, if it would not be valid, and for other regions.
func RegionSet(r Region, cell int, has bool) (Region, bool) {
	if !RegionValid(r) || cell < 0 || cell >= len(r.Cells) {
		return Region{}, false
	}
	set := copyField(r)
	set.Cells[cell] = has
	if !RegionValid(set) {
		return Region{}, false
	}
	return set, true
}

// CellsMany returns how many cells belong to a valid region; -1 for other regions.
func CellsMany(r Region) int {
	if !RegionValid(r) {
		return -1
	}
	return cellsIn(r)
}

// DarkMany returns how many cells of a valid region are dark: those whose column and row, both from 0 on, are together even; -1 for other regions.
func DarkMany(r Region) int {
	if !RegionValid(r) {
		return -1
	}
	many := 0
	for cell, has := range r.Cells {
		if has && darkAt(cell%r.Wide, cell/r.Wide) {
			many++
		}
	}
	return many
}

// Balanced reports whether as many cells of a valid region are dark as are not (DarkMany); false for other regions.
func Balanced(r Region) bool {
	return RegionValid(r) && 2*DarkMany(r) == cellsIn(r)
}

// RegionTurn returns a valid region turned by a right angle from the east to the north: the cell in the column x and the row y is in the column Tall-1-y and the row x then; the zero value for other regions.
func RegionTurn(r Region) Region {
	if !RegionValid(r) {
		return Region{}
	}
	turned := bareField(r.Tall, r.Wide)
	for cell, has := range r.Cells {
		turned.Cells[turnedCell(r, cell)] = has
	}
	return turned
}

// RegionFlip returns a valid region mirrored so that what was in the east is in the west; the zero value for other regions.
func RegionFlip(r Region) Region {
	if !RegionValid(r) {
		return Region{}
	}
	flipped := bareField(r.Wide, r.Tall)
	for cell, has := range r.Cells {
		flipped.Cells[flippedCell(r, cell)] = has
	}
	return flipped
}

// RegionJoin returns the region to which all cells belong that belong to one of two valid regions with the same field, and true; the zero value and false if it is not valid, and for other regions.
func RegionJoin(a Region, b Region) (Region, bool) {
	if !sameField(a, b) {
		return Region{}, false
	}
	join := copyField(a)
	for cell, has := range b.Cells {
		join.Cells[cell] = join.Cells[cell] || has
	}
	if !RegionValid(join) {
		return Region{}, false
	}
	return join, true
}

// RegionMeet returns the region to which all cells belong that belong to both of two valid regions with the same field, and true; the zero value and false for other regions.
func RegionMeet(a Region, b Region) (Region, bool) {
	if !sameField(a, b) {
		return Region{}, false
	}
	meet := copyField(a)
	for cell, has := range b.Cells {
		meet.Cells[cell] = meet.Cells[cell] && has
	}
	return meet, true
}

// PartsOf returns for each cell of a valid region the least index of a cell of its part: of those that are reached from it over cells of the region, from side to side; -1 for cells that do not belong to it; nil for other regions.
func PartsOf(r Region) []int {
	if !RegionValid(r) {
		return nil
	}
	return marksOf(r, false)
}

// PartsMany returns how many parts a valid region has (PartsOf), 0 without cells; -1 for other regions.
func PartsMany(r Region) int {
	if !RegionValid(r) {
		return -1
	}
	return marksMany(marksOf(r, false))
}

// HolesMany returns how many holes a valid region has: parts of what does not belong to it, inside or outside of its field, where cells hang together by sides and by corners, less the one that goes on outside of the field; -1 for other regions.
func HolesMany(r Region) int {
	if !RegionValid(r) {
		return -1
	}
	return marksMany(marksOf(outside(r), true)) - 1
}

// Border returns how many sides of cells of a valid region have no cell of it on the other side; -1 for other regions.
func Border(r Region) int {
	if !RegionValid(r) {
		return -1
	}
	sides := 0
	for cell, has := range r.Cells {
		if has {
			sides += 4 - len(cellsAround(r, cell, false))
		}
	}
	return sides
}

// RegionText returns the text of a valid region: its rows from the north to the south, with slashes between them, each with a hash sign for a cell that belongs to it, and a point for another one; "" for other regions.
func RegionText(r Region) string {
	if !RegionValid(r) {
		return ""
	}
	letters := make([]byte, len(r.Cells))
	for cell, has := range r.Cells {
		letters[cell] = '.'
		if has {
			letters[cell] = '#'
		}
	}
	return fieldText(r.Wide, letters)
}

// ReadRegion returns the valid region whose RegionText a text is, and true; the zero value and false if there is none.
func ReadRegion(s string) (Region, bool) {
	wide, letters, ok := readField(s)
	if !ok {
		return Region{}, false
	}
	r := bareField(wide, len(letters)/wide)
	for cell, letter := range letters {
		if letter != '#' && letter != '.' {
			return Region{}, false
		}
		r.Cells[cell] = letter == '#'
	}
	if !RegionValid(r) {
		return Region{}, false
	}
	return r, true
}

func sidesOk(wide int, tall int) bool {
	return wide >= 1 && wide <= MaxSide && tall >= 1 && tall <= MaxSide
}

// bareField takes any sides, also ones that no valid region has: outside needs a rim around the greatest field.
func bareField(wide int, tall int) Region {
	return Region{Wide: wide, Tall: tall, Cells: make([]bool, wide*tall)}
}

func copyField(r Region) Region {
	copied := bareField(r.Wide, r.Tall)
	copy(copied.Cells, r.Cells)
	return copied
}

func sameField(a Region, b Region) bool {
	return RegionValid(a) && RegionValid(b) && a.Wide == b.Wide && a.Tall == b.Tall
}

func cellsIn(field Region) int {
	many := 0
	for _, has := range field.Cells {
		if has {
			many++
		}
	}
	return many
}

func cellAt(field Region, x int, y int) int {
	return y*field.Wide + x
}

// hasCell answers for places outside of the field, too, so that whoever looks around a cell at the edge needs no check.
func hasCell(field Region, x int, y int) bool {
	return inField(field, x, y) && field.Cells[cellAt(field, x, y)]
}

func inField(field Region, x int, y int) bool {
	return x >= 0 && x < field.Wide && y >= 0 && y < field.Tall
}

// turnedCell returns the index of a cell in the field turned, where a row is as long as a column is here.
func turnedCell(field Region, cell int) int {
	x, y := cell%field.Wide, cell/field.Wide
	return x*field.Tall + field.Tall - 1 - y
}

func flippedCell(field Region, cell int) int {
	x, y := cell%field.Wide, cell/field.Wide
	return cellAt(field, field.Wide-1-x, y)
}

func darkAt(x int, y int) bool {
	return (x+y)%2 == 0
}

// cellsAround takes corners as an argument because parts of a region hang together by sides alone, but holes by corners, too.
func cellsAround(field Region, cell int, corners bool) []int {
	var list []int
	x, y := cell%field.Wide, cell/field.Wide
	for dy := -1; dy <= 1; dy++ {
		for dx := -1; dx <= 1; dx++ {
			itself, corner := dx == 0 && dy == 0, dx != 0 && dy != 0
			if itself || corner && !corners || !hasCell(field, x+dx, y+dy) {
				continue
			}
			list = append(list, cellAt(field, x+dx, y+dy))
		}
	}
	return list
}

// marksOf gives each cell of a field the index of the least cell it hangs together with, and -1 to those that do not belong to it.
func marksOf(field Region, corners bool) []int {
	marks := slices.Repeat([]int{-1}, len(field.Cells))
	for cell, has := range field.Cells {
		// In ascending order the first cell without a mark is the least one of its part.
		if has && marks[cell] < 0 {
			spreadMark(field, corners, marks, cell)
		}
	}
	return marks
}

func spreadMark(field Region, corners bool, marks []int, first int) {
	marks[first] = first
	work := []int{first}
	for len(work) > 0 {
		cell := work[0]
		work = work[1:]
		for _, next := range cellsAround(field, cell, corners) {
			if marks[next] < 0 {
				marks[next] = first
				work = append(work, next)
			}
		}
	}
}

// marksMany counts the cells marked with their own index, because each part has exactly one: its least.
func marksMany(marks []int) int {
	many := 0
	for cell, mark := range marks {
		if mark == cell {
			many++
		}
	}
	return many
}

// outside returns what does not belong to a region with a rim of one cell around the field, because by the rim all that goes on outside of the field hangs together.
func outside(r Region) Region {
	field := bareField(r.Wide+2, r.Tall+2)
	for cell := range field.Cells {
		field.Cells[cell] = !hasCell(r, cell%field.Wide-1, cell/field.Wide-1)
	}
	return field
}

// fieldText reverses the rows, because cells are counted from the south, but texts begin in the north.
func fieldText(wide int, letters []byte) string {
	var rows []string
	for row := range slices.Chunk(letters, wide) {
		rows = append(rows, string(row))
	}
	slices.Reverse(rows)
	return strings.Join(rows, "/")
}

// readField returns the Wide and the letters of the field whose fieldText a text is. Which letters are allowed is for its callers to check, as fields are written with different ones.
func readField(s string) (int, []byte, bool) {
	rows := strings.Split(s, "/")
	wide := len(rows[0])
	if !sidesOk(wide, len(rows)) {
		return 0, nil, false
	}
	var letters []byte
	for _, row := range slices.Backward(rows) {
		if len(row) != wide {
			return 0, nil, false
		}
		letters = append(letters, row...)
	}
	return wide, letters, true
}
