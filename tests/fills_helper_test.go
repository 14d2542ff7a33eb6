package tests

import (
	"maps"
	"math/rand"
	"slices"
	"strconv"
	"strings"
	"sync"

	"loop.example/dominotilings/impl"
)

// patch is a region with pieces, and a list that fills it with them, or one that does not.
type patch struct {
	r      impl.Region
	pieces [][]impl.Cell
	fill   []int
}

// cellsWith returns the cells of a field that have a number in a list, row by row from the south.
func cellsWith(r impl.Region, fill []int, number int) []impl.Cell {
	var cells []impl.Cell
	for cell, other := range fill {
		if other == number {
			p := placeOf(r, cell)
			cells = append(cells, impl.Cell{Column: p.x, Row: p.y})
		}
	}
	return cells
}

// isFill is FillOk for a valid region and valid pieces, told by drawings.
func isFill(p patch) bool {
	if len(p.fill) != len(p.r.Cells) {
		return false
	}
	for cell, number := range p.fill {
		there := number >= 0 && number < len(p.pieces)
		if p.r.Cells[cell] != there || !there && number != -1 {
			return false
		}
	}
	for number, piece := range p.pieces {
		cells := cellsWith(p.r, p.fill, number)
		if len(cells) != len(piece) || !slices.Contains(toldForms(piece), drawing(cells)) {
			return false
		}
	}
	return true
}

// fillKey tells in which order a region is filled: of two keys the lesser one is that of the list that comes first. No number has two digits.
func fillKey(r impl.Region, fill []int) string {
	var steps []string
	for cell, number := range fill {
		if number >= 0 && slices.Index(fill, number) == cell {
			steps = append(steps, strconv.Itoa(number)+drawing(cellsWith(r, fill, number)))
		}
	}
	return strings.Join(steps, " ")
}

// filler fills a region from its last cell on, with the last cell of a form.
type filler struct {
	r     impl.Region
	forms [][][]impl.Cell
	fill  []int
	found map[string][]int
}

// toldFills is FillsAll for a valid region and valid pieces.
func toldFills(r impl.Region, pieces [][]impl.Cell) [][]int {
	f := &filler{r: r, fill: slices.Repeat([]int{-1}, len(r.Cells)), found: map[string][]int{}}
	for _, p := range pieces {
		var forms [][]impl.Cell
		for _, text := range toldForms(p) {
			forms = append(forms, undrawn(text))
		}
		f.forms = append(f.forms, forms)
	}
	f.fillLast()
	var list [][]int
	for _, key := range slices.Sorted(maps.Keys(f.found)) {
		list = append(list, f.found[key])
	}
	return list
}

func (f *filler) fillLast() {
	last, used := -1, map[int]bool{}
	for cell, number := range f.fill {
		if f.r.Cells[cell] && number < 0 {
			last = cell
		}
		used[number] = true
	}
	delete(used, -1)
	if last < 0 {
		if len(used) == len(f.forms) {
			f.found[fillKey(f.r, f.fill)] = slices.Clone(f.fill)
		}
		return
	}
	for number, forms := range f.forms {
		for _, form := range forms {
			if !used[number] {
				f.tryForm(last, form, number)
			}
		}
	}
}

func (f *filler) tryForm(last int, form []impl.Cell, number int) {
	p, end := placeOf(f.r, last), form[len(form)-1]
	under := shifted(form, p.x-end.Column, p.y-end.Row)
	for _, c := range under {
		if !within(f.r, c.Column, c.Row) || f.fill[indexOf(f.r, place{c.Column, c.Row})] >= 0 {
			return
		}
	}
	for _, c := range under {
		f.fill[indexOf(f.r, place{c.Column, c.Row})] = number
	}
	f.fillLast()
	for _, c := range under {
		f.fill[indexOf(f.r, place{c.Column, c.Row})] = -1
	}
}

// freePlaces returns the places on a ground that are not in the region, of the same field; beside some cells, if there are some.
func freePlaces(ground impl.Region, r impl.Region, cells []place) []place {
	var list []place
	for i, has := range ground.Cells {
		p := placeOf(r, i)
		near := func(q place) bool { return sideBySide(p, q) }
		if has && !r.Cells[i] && !slices.Contains(cells, p) && (len(cells) == 0 || slices.ContainsFunc(cells, near)) {
			list = append(list, p)
		}
	}
	return list
}

// sown lays pieces of so many cells or fewer on a ground, one after the other: the region is that of their cells. The pieces are turned, moved and mixed then.
func sown(ground impl.Region, sizes []int, dice *rand.Rand) patch {
	p := patch{r: filled(ground.Wide, ground.Tall, 0), fill: slices.Repeat([]int{-1}, len(ground.Cells))}
	for _, size := range sizes {
		var cells []place
		for range min(size, impl.MaxCells-countCells(p.r)) {
			if free := freePlaces(ground, p.r, cells); len(free) > 0 {
				cells = append(cells, free[dice.Intn(len(free))])
			}
		}
		if len(cells) == 0 {
			continue
		}
		var piece []impl.Cell
		for _, q := range cells {
			p.r.Cells[indexOf(p.r, q)], p.fill[indexOf(p.r, q)] = true, len(p.pieces)
			piece = append(piece, impl.Cell{Column: q.x, Row: q.y})
		}
		turned := broughtBy(piece, eightWays()[dice.Intn(8)])
		p.pieces = append(p.pieces, mixed(shifted(turned, dice.Intn(7)-3, dice.Intn(7)-3), dice))
	}
	return p
}

// somePatches returns regions of every field with pieces that fill them, also with holes, in several parts and without cells.
var somePatches = sync.OnceValue(func() []patch {
	var list []patch
	dice := rand.New(rand.NewSource(9))
	for wide := 1; wide <= impl.MaxSide; wide++ {
		for tall := 1; tall <= impl.MaxSide; tall++ {
			ground := filled(wide, tall, wide*tall)
			for i := range 14 {
				sizes := make([]int, i%(impl.MaxFill+1))
				for j := range sizes {
					sizes[j] = 1 + dice.Intn(impl.MaxPiece)
				}
				list = append(list, sown(ground, sizes, dice))
			}
			list = append(list, sown(ground, []int{3, 4, 5, 4, 3, 5}, dice), sown(ground, []int{5, 5, 5, 5, 4}, dice))
		}
	}
	for i := range 8 {
		list = append(list, sown(filled(6, 6, 36), []int{5, 5, 5, 5, 4}, dice), sown(filled(6, 5, 30), []int{5, i%5 + 1, 5, 4, 5, 5}, dice))
	}
	for _, text := range []string{"###/#.#/###", "####/#..#/####", "#####/#.###/#####", "####/#..#/#..#/####", "######/#.##.#/######", "######/#....#/#....#/######"} {
		ground, _ := impl.ReadRegion(text)
		for range 8 {
			list = append(list, sown(ground, []int{5, 4, 3, 2, 5, 5}, dice))
		}
	}
	return list
})

// drawnPatch reads a region with a list that tells for each of its cells the letter a, b, .. of its piece, which is drawn.
func drawnPatch(text string, pieces ...string) patch {
	rows := strings.Split(text, "/")
	slices.Reverse(rows)
	letters := strings.Join(rows, "")
	p := patch{r: filled(len(rows[0]), len(rows), 0)}
	for cell, letter := range letters {
		p.r.Cells[cell] = letter != '.'
		number := -1
		if letter != '.' {
			number = int(letter - 'a')
		}
		p.fill = append(p.fill, number)
	}
	for _, piece := range pieces {
		p.pieces = append(p.pieces, pieceOf(piece))
	}
	return p
}

// pieceLists returns all lists of pieces with so many cells together, in every order.
func pieceLists(cells int) [][][]impl.Cell {
	if cells == 0 {
		return [][][]impl.Cell{nil}
	}
	var list [][][]impl.Cell
	for many := 1; many <= min(cells, impl.MaxPiece); many++ {
		for _, rest := range pieceLists(cells - many) {
			for _, text := range toldPieces(many) {
				list = append(list, append(slices.Clone(rest), undrawn(text)))
			}
		}
	}
	return list
}

// tinyRegions returns all regions of the fields of at most so many cells.
func tinyRegions(cells int) []impl.Region {
	return slices.DeleteFunc(smallRegions(), func(r impl.Region) bool { return len(r.Cells) > cells })
}

// wrongPatches returns lists that are not even looked at: with regions or pieces that are not valid, and with lists that are too short or too long.
func wrongPatches() []patch {
	domino := pieceOf("##")
	var list []patch
	for _, r := range badRegions() {
		list = append(list, patch{r, nil, nil}, patch{r, nil, slices.Repeat([]int{-1}, len(r.Cells))}, patch{r, [][]impl.Cell{domino}, make([]int, len(r.Cells))})
	}
	bar := filled(5, 1, 5)
	bar.Wide = 1
	list = append(list, patch{bar, [][]impl.Cell{pieceOf("#####")}, make([]int, 5)})
	for _, p := range badPieces() {
		list = append(list, patch{filled(2, 1, 2), [][]impl.Cell{p}, []int{0, 0}}, patch{filled(2, 1, 0), [][]impl.Cell{p}, []int{-1, -1}})
		list = append(list, patch{filled(2, 2, 4), [][]impl.Cell{p, domino}, []int{1, 1, 0, 0}}, patch{filled(2, 2, 2), [][]impl.Cell{domino, p}, []int{0, 0, -1, -1}})
	}
	return append(list,
		drawnPatch("a.a", "#.#"), drawnPatch("a./.a", "#./.#"), drawnPatch("aaa/aaa", "###/###"),
		drawnPatch("aaaaaa", "######"), drawnPatch("abcdef/g.....", "#", "#", "#", "#", "#", "#", "#"),
		drawnPatch("abcdef", "#", "#", "#", "#", "#", "#", "#"), drawnPatch("......", "#", "#", "#", "#", "#", "#", "#"),
	)
}
