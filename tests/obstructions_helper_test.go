package tests

import (
	"math/bits"
	"slices"
	"testing"

	"loop.example/dominotilings/impl"
)

// lackRegions returns regions without cells, of cells without neighbours, without dark cells and without light ones, with 12 dark cells and with more, and such that are balanced but have no tiling.
func lackRegions(t *testing.T) []impl.Region {
	t.Helper()
	var list []impl.Region
	for _, text := range []string{
		".", "../..", "....../....../....../....../....../......",
		"#", "#.#", "#./.#", "#..#/..../#..#", ".#./#.#/.#.", "#.#/.#./#.#",
		"####/####/####/####/####/####", "#####/####./#####/#####/#####", "#####/#####/#####/#####/####.",
		"######/#.#.#./######/#.#.#./######/......", "#.#.#./.#.#.#/#.#.#./.#.#.#/....../......",
		"#.#.#./.#.#.#/#.#.#./.#.#.#/......", "#.#.#./.#.#.#/#.#.#./.#.#.#/#.....", ".#.#.#/#.#.#./.#.#.#/#.#.#./.#.#.#/#.#.#.",
		"#.#.#./.#.#.#/#.#.#./.#.#.#/#.#.#./.#.#.#", "####/###./##../#...", "#.#.#./######/#.#.#.",
		"#..#", "##../#..#/...#", "##./###/..#", "#.##", "#.##/....", ".#../###./..##", "#.../###./..#.",
		"#..#/####/#..#/####", "##..##/.####./##..##", "#....#/##..##/#....#",
	} {
		list = append(list, region(t, text))
	}
	return append(list, someRegions()...)
}

func obstructed(t *testing.T) []impl.Region {
	t.Helper()
	return slices.Concat(validRegions(), lackRegions(t), holedRegions(t))
}

func indicesOf(r impl.Region, places []place) []int {
	var list []int
	for _, p := range places {
		list = append(list, indexOf(r, p))
	}
	return list
}

// sideBySide tells by columns and rows whether two places are.
func sideBySide(p place, q place) bool {
	dx, dy := p.x-q.x, p.y-q.y
	return dx*dx+dy*dy == 1
}

// toldBeside is CellsBeside for a valid region: it asks each cell of the region for one of the cells beside it.
func toldBeside(r impl.Region, cells []int) []int {
	var list []int
	for cell, has := range r.Cells {
		near := func(other int) bool {
			return other >= 0 && other < len(r.Cells) && sideBySide(placeOf(r, cell), placeOf(r, other))
		}
		if has && slices.ContainsFunc(cells, near) {
			list = append(list, cell)
		}
	}
	return list
}

// worst finds the set of dark places with the least sum that lacks the most: it leaves a place out before it takes it, those with the greatest numbers first.
type worst struct {
	dark   []place
	near   map[place]int
	taken  []place
	most   int
	lacked []place
}

// toldWorst is LackMost and LackSet for a valid region, however many dark cells it has.
func toldWorst(r impl.Region) (int, []int) {
	w := &worst{dark: coloured(r, true), near: map[place]int{}}
	w.choose(r, len(w.dark)-1)
	list := indicesOf(r, w.lacked)
	slices.Sort(list)
	return w.most, list
}

func (w *worst) choose(r impl.Region, last int) {
	if last < 0 {
		if lack := len(w.taken) - len(w.near); lack > w.most {
			w.most, w.lacked = lack, slices.Clone(w.taken)
		}
		return
	}
	w.choose(r, last-1)
	w.taken = append(w.taken, w.dark[last])
	for _, way := range allWays() {
		if q := aside(w.dark[last], way); within(r, q.x, q.y) {
			w.near[q]++
		}
	}
	w.choose(r, last-1)
	w.taken = w.taken[:len(w.taken)-1]
	for _, way := range allWays() {
		if q := aside(w.dark[last], way); within(r, q.x, q.y) {
			if w.near[q]--; w.near[q] == 0 {
				delete(w.near, q)
			}
		}
	}
}

// toldMost is LaidMost for a valid region: from the last cell to the first it keeps, for each set of covered cells in the row ahead, how many dominoes can be laid at most, where a cell may stay bare.
func toldMost(r impl.Region) int {
	next := make([]int, 1<<r.Wide)
	for cell := len(r.Cells) - 1; cell >= 0; cell-- {
		now := make([]int, 1<<r.Wide)
		x, y := cell%r.Wide, cell/r.Wide
		for covered := range now {
			rest := covered >> 1
			now[covered] = next[rest]
			if covered&1 == 1 || !within(r, x, y) {
				continue
			}
			if within(r, x+1, y) && covered&2 == 0 {
				now[covered] = max(now[covered], 1+next[rest|1])
			}
			if within(r, x, y+1) {
				now[covered] = max(now[covered], 1+next[rest|1<<(r.Wide-1)])
			}
		}
		next = now
	}
	return next[0]
}

// roundTexts tells the ways through all boxes that have one, step by step, from the cell 0 on and back to it.
func roundTexts() map[[2]int]string {
	return map[[2]int]string{
		{2, 2}: "nesw",
		{3, 2}: "n ee s w w",
		{4, 2}: "n eee s ww w",
		{5, 2}: "n eeee s www w",
		{6, 2}: "n eeeee s wwww w",
		{2, 4}: "nnn e s s s w",
		{3, 4}: "nnn ee s w s e s w w",
		{4, 4}: "nnn eee s ww s ee s ww w",
		{5, 4}: "nnn eeee s www s eee s www w",
		{6, 4}: "nnn eeeee s wwww s eeee s wwww w",
		{2, 6}: "nnnnn e s s s s s w",
		{3, 6}: "nnnnn ee s w s e s w s e s w w",
		{4, 6}: "nnnnn eee s ww s ee s ww s ee s ww w",
		{2, 3}: "e nn w s s",
		{2, 5}: "e nnnn w sss s",
		{4, 3}: "eee nn w s w n w s s",
		{4, 5}: "eee nnnn w sss w nnn w sss s",
		{6, 3}: "eeeee nn w s w n w s w n w s s",
	}
}

// walked returns the places of a way from the south-west on, without the last one, and the last one.
func walked(text string) ([]place, place) {
	letters := map[rune]int{'e': impl.ToEast, 'n': impl.ToNorth, 'w': impl.ToWest, 's': impl.ToSouth}
	var list []place
	at := place{0, 0}
	for _, letter := range text {
		if letter != ' ' {
			list = append(list, at)
			at = aside(at, letters[letter])
		}
	}
	return list, at
}

// toldCut is CutTwo for two places of a round way, told by their numbers: each place goes on to the one ahead of it if it is an odd number of steps behind the last one that was cut out, and back otherwise.
func toldCut(r impl.Region, round []place, i int, j int) []int {
	laid := make([]int, len(r.Cells))
	for k, p := range round {
		if k == i || k == j {
			continue
		}
		behind := min((k-i+len(round))%len(round), (k-j+len(round))%len(round))
		other := round[(k+1)%len(round)]
		if behind%2 == 0 {
			other = round[(k-1+len(round))%len(round)]
		}
		for _, way := range allWays() {
			if aside(p, way) == other {
				laid[indexOf(r, p)] = way
			}
		}
	}
	return laid
}

// toldColours returns how many cells of a valid region each remainder has, counted along the lines on which columns and rows are together the same.
func toldColours(r impl.Region, number int) []int {
	colours := make([]int, number)
	for sum := range r.Wide + r.Tall {
		for x := range r.Wide {
			if within(r, x, sum-x) {
				colours[sum%number]++
			}
		}
	}
	return colours
}

// barsOf returns all bars that lie on cells of the region, each once, as sums of 2^cell.
func barsOf(r impl.Region, long int) []uint64 {
	var list []uint64
	for cell := range r.Cells {
		for _, way := range []int{impl.ToEast, impl.ToNorth} {
			var bar uint64
			p := placeOf(r, cell)
			for range long {
				if within(r, p.x, p.y) {
					bar |= 1 << indexOf(r, p)
				}
				p = aside(p, way)
			}
			if bits.OnesCount64(bar) == long && !slices.Contains(list, bar) {
				list = append(list, bar)
			}
		}
	}
	return list
}

// coversOf counts in how many ways bars cover all cells of a set: one of them covers the last one.
func coversOf(left uint64, bars []uint64) int {
	if left == 0 {
		return 1
	}
	many := 0
	last := uint64(1) << (bits.Len64(left) - 1)
	for _, bar := range bars {
		if bar&last != 0 && bar&^left == 0 {
			many += coversOf(left&^bar, bars)
		}
	}
	return many
}

// toldBars is BarsMany for a valid region and a length in 1..MaxBar.
func toldBars(r impl.Region, long int) int {
	var left uint64
	for cell, has := range r.Cells {
		if has {
			left |= 1 << cell
		}
	}
	return coversOf(left, barsOf(r, long))
}

// notBars are numbers that are no length of a bar.
func notBars() []int {
	return append(farNumbers(), 0, impl.MaxBar+1, impl.MaxBar+2, -2, -impl.MaxBar)
}
