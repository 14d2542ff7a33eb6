package tests

import (
	"cmp"
	"math/rand"
	"slices"
	"sync"
	"testing"

	"loop.example/dominotilings/impl"
)

// reached counts the places that are reached from side to side over cells of the region, or over others in the field and in a rim around it.
func reached(r impl.Region, from place, inside bool) int {
	seen := map[place]bool{from: true}
	for work := []place{from}; len(work) > 0; {
		p := work[len(work)-1]
		work = work[:len(work)-1]
		for _, way := range allWays() {
			q := aside(p, way)
			near := q.x >= -1 && q.x <= r.Wide && q.y >= -1 && q.y <= r.Tall
			if near && !seen[q] && within(r, q.x, q.y) == inside {
				seen[q] = true
				work = append(work, q)
			}
		}
	}
	return len(seen)
}

// isSimple is Simple for a valid region, told by places.
func isSimple(r impl.Region) bool {
	many, first := countCells(r), slices.Index(r.Cells, true)
	if first < 0 || reached(r, placeOf(r, first), true) != many {
		return false
	}
	return reached(r, place{-1, -1}, false) == (r.Wide+2)*(r.Tall+2)-many
}

// grown adds pieces of one or two cells to a region, as long as it stays simple: of two it has a tiling.
func grown(wide int, tall int, cells int, dice *rand.Rand) impl.Region {
	r := filled(wide, tall, 0)
	places := spots(filled(wide, tall, wide*tall))
	most := 2 + dice.Intn(impl.MaxCells-1)
	for range 60 {
		d := places[dice.Intn(len(places))]
		further := filled(wide, tall, 0)
		copy(further.Cells, r.Cells)
		for _, p := range d[:cells] {
			further.Cells[indexOf(r, p)] = true
		}
		if many := countCells(further); many == countCells(r)+cells && many <= most && isSimple(further) {
			r = further
		}
	}
	return r
}

// simpleRegions returns all simple regions of the fields of at most 12 cells, and some of every field.
var simpleRegions = sync.OnceValue(func() []impl.Region {
	list := append(validRegions(), someRegions()...)
	dice := rand.New(rand.NewSource(4))
	for wide := 2; wide <= impl.MaxSide; wide++ {
		for tall := 2; tall <= impl.MaxSide; tall++ {
			for range 4 {
				list = append(list, grown(wide, tall, 1, dice), grown(wide, tall, 2, dice), grown(wide, tall, 2, dice))
			}
		}
	}
	return slices.DeleteFunc(list, func(r impl.Region) bool { return !isSimple(r) })
})

// someRegions returns diamonds, ways that wind and boxes with something cut out.
func someRegions() []impl.Region {
	var list []impl.Region
	for _, text := range []string{
		".##./####/####/.##.",
		"..##../.####./######/######/.####./..##..",
		"######/.....#/######/#...../######",
		"######/#....#/#.##.#/#.#..#/#.####/#.....",
		"######/#.##.#/######/#....#",
		".####/#####/#####/#####/####.",
		"######/######/..####/..##../####../##....",
	} {
		r, _ := impl.ReadRegion(text)
		list = append(list, r)
	}
	return list
}

// twistedRegions returns valid regions that are not simple: without cells, of several parts, with a hole, and of one part whose outside hangs together by corners alone. Most have tilings.
func twistedRegions(t *testing.T) []impl.Region {
	t.Helper()
	var list []impl.Region
	for _, text := range []string{
		".", "...", "../..", "....../....../....../....../....../......",
		"#.#", "##.##", "##.##/##.##", "#./.#", "##../..##", "##/../##",
		"###/#.#/###", "####/#..#/####", "####/#..#/#..#/####", "######/#....#/######",
		"##../#.##/###.", "####./#..#./.####", "####../#..#../#..#../.#####",
	} {
		list = append(list, region(t, text))
	}
	return list
}

// line is a side of a cell, from a corner to the next one in the east or in the north, with the cells beside it. A corner has the place of the cell in the north-east of it.
type line struct {
	from  place
	to    place
	left  place
	right place
}

func linesAround(p place) [4]line {
	east, north, far := place{p.x + 1, p.y}, place{p.x, p.y + 1}, place{p.x + 1, p.y + 1}
	return [4]line{
		{p, east, p, place{p.x, p.y - 1}},
		{p, north, place{p.x - 1, p.y}, p},
		{east, far, p, east},
		{north, far, north, p},
	}
}

// linesOf returns the sides of all cells of the region, each once, those at its border first.
func linesOf(r impl.Region) []line {
	var list []line
	for cell, has := range r.Cells {
		if !has {
			continue
		}
		for _, l := range linesAround(placeOf(r, cell)) {
			if !slices.Contains(list, l) {
				list = append(list, l)
			}
		}
	}
	slices.SortStableFunc(list, func(a line, b line) int {
		return cmp.Compare(len(risesOver(r, a)), len(risesOver(r, b)))
	})
	return list
}

// plainRise is by how much the height grows where no domino lies across.
func plainRise(l line) int {
	if (l.left.x+l.left.y)%2 == 0 {
		return 1
	}
	return -1
}

// risesOver returns by how much the height may grow along a side, in any tiling.
func risesOver(r impl.Region, l line) []int {
	rise := plainRise(l)
	if within(r, l.left.x, l.left.y) && within(r, l.right.x, l.right.y) {
		return []int{rise, -3 * rise}
	}
	return []int{rise}
}

func cornerIndex(r impl.Region, p place) int {
	return p.y*(r.Wide+1) + p.x
}

// bareHeights returns a list in which the first corner of a cell alone has a height.
func bareHeights(r impl.Region, lines []line) []int {
	heights := slices.Repeat([]int{impl.NoHeight}, (r.Wide+1)*(r.Tall+1))
	first := len(heights)
	for _, l := range lines {
		first = min(first, cornerIndex(r, l.from))
	}
	if first < len(heights) {
		heights[first] = 0
	}
	return heights
}

// nextLine returns a side of which one end alone has a height, and which one.
func nextLine(r impl.Region, lines []line, heights []int) (line, bool, bool) {
	for _, l := range lines {
		from, to := heights[cornerIndex(r, l.from)], heights[cornerIndex(r, l.to)]
		if (from == impl.NoHeight) != (to == impl.NoHeight) {
			return l, to == impl.NoHeight, true
		}
	}
	return line{}, false, false
}

// risen returns a list with the height at the other end of a side.
func risen(r impl.Region, heights []int, l line, forth bool, rise int) []int {
	further := slices.Clone(heights)
	if forth {
		further[cornerIndex(r, l.to)] = heights[cornerIndex(r, l.from)] + rise
	} else {
		further[cornerIndex(r, l.from)] = heights[cornerIndex(r, l.to)] - rise
	}
	return further
}

// toldHeights goes from corner to corner with the dominoes of a tiling.
func toldHeights(r impl.Region, laid []int) []int {
	lines, all := linesOf(r), dominoesOf(r, laid)
	heights := bareHeights(r, lines)
	for {
		l, forth, found := nextLine(r, lines, heights)
		if !found {
			return heights
		}
		rise := plainRise(l)
		if all[domino{l.left, l.right}] || all[domino{l.right, l.left}] {
			rise *= -3
		}
		heights = risen(r, heights, l, forth, rise)
	}
}

// climbs goes from corner to corner with every rise that is told for a side, and returns all lists that it comes to. Where the ways to a corner meet, they need not fit.
func climbs(r impl.Region, lines []line, rises func(l line) []int) [][]int {
	lists := [][]int{bareHeights(r, lines)}
	for {
		// All lists have heights at the same corners.
		l, forth, found := nextLine(r, lines, lists[0])
		if !found {
			return lists
		}
		var further [][]int
		for _, heights := range lists {
			for _, rise := range rises(l) {
				further = append(further, risen(r, heights, l, forth, rise))
			}
		}
		lists = further
	}
}

// rightHeights returns all lists that mayBeHeights takes, without any tiling.
func rightHeights(r impl.Region) [][]int {
	lines := linesOf(r)
	lists := climbs(r, lines, func(l line) []int { return risesOver(r, l) })
	return slices.DeleteFunc(lists, func(heights []int) bool { return !mayBeHeights(r, lines, heights) })
}

// mayBeHeights is HeightsOk for a simple region, told by its sides.
func mayBeHeights(r impl.Region, lines []line, heights []int) bool {
	bare := bareHeights(r, lines)
	if len(heights) != len(bare) || heights[slices.Index(bare, 0)] != 0 {
		return false
	}
	used := make([]bool, len(bare))
	for _, l := range lines {
		from, to := cornerIndex(r, l.from), cornerIndex(r, l.to)
		used[from], used[to] = true, true
		if !slices.Contains(risesOver(r, l), heights[to]-heights[from]) {
			return false
		}
	}
	for corner, height := range heights {
		if used[corner] && (height < -60 || height > 60) || !used[corner] && height != impl.NoHeight {
			return false
		}
	}
	return true
}

// someTilings returns all tilings of a region, or so many of them from the first to the last.
func someTilings(r impl.Region, most int) [][]int {
	all := impl.TilingsAll(r)
	if len(all) <= most {
		return all
	}
	var list [][]int
	for i := range most {
		list = append(list, all[i*(len(all)-1)/(most-1)])
	}
	return list
}

// noTilings returns regions with lists that are no tiling of a simple region: regions that are not valid or not simple, also with their tilings, and lists that are wrong or leave cells uncovered.
func noTilings(t *testing.T) []field {
	t.Helper()
	list := wrongFields()
	for _, r := range twistedRegions(t) {
		list = append(list, field{r, nil}, field{r, make([]int, len(r.Cells))})
		for _, laid := range impl.TilingsAll(r) {
			list = append(list, field{r, laid})
		}
	}
	for _, f := range laidFields() {
		if !isFull(f.r, f.laid) {
			list = append(list, f)
		}
	}
	return list
}
