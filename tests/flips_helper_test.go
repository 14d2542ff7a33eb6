package tests

import (
	"slices"
	"testing"

	"loop.example/dominotilings/impl"
)

// squareAround returns the four places around a corner: in the south-west, the south-east, the north-west and the north-east of it.
func squareAround(r impl.Region, corner int) [4]place {
	x, y := corner%(r.Wide+1), corner/(r.Wide+1)
	return [4]place{{x - 1, y - 1}, {x, y - 1}, {x - 1, y}, {x, y}}
}

// flatTwo returns the two flat dominoes of a square, and tallTwo the two upright ones.
func flatTwo(s [4]place) [2]domino {
	return [2]domino{{s[0], s[1]}, {s[2], s[3]}}
}

func tallTwo(s [4]place) [2]domino {
	return [2]domino{{s[0], s[2]}, {s[1], s[3]}}
}

func cornersOf(r impl.Region) int {
	return (r.Wide + 1) * (r.Tall + 1)
}

// allCorners returns all corners of the field, and numbers of corners that are not there.
func allCorners(r impl.Region) []int {
	list := append(farNumbers(), -100, 49, 50, 100)
	for corner := -8; corner < cornersOf(r)+8; corner++ {
		list = append(list, corner)
	}
	return list
}

// exchanged puts two other dominoes into the place of two that are there.
func exchanged(r impl.Region, laid []int, old [2]domino, fresh [2]domino) []int {
	all := dominoesOf(r, laid)
	for i := range old {
		delete(all, old[i])
		all[fresh[i]] = true
	}
	other := make([]int, len(laid))
	for d := range all {
		put(r, other, d)
	}
	return other
}

// toldFlip is FlipOne for a right list and its dominoes.
func toldFlip(r impl.Region, laid []int, all map[domino]bool, corner int) ([]int, bool) {
	if corner < 0 || corner >= cornersOf(r) {
		return laid, false
	}
	square := squareAround(r, corner)
	flat, tall := flatTwo(square), tallTwo(square)
	switch {
	case all[flat[0]] && all[flat[1]]:
		return exchanged(r, laid, flat, tall), true
	case all[tall[0]] && all[tall[1]]:
		return exchanged(r, laid, tall, flat), true
	}
	return laid, false
}

// turn is a flip that can be done: its corner, and the list behind it.
type turn struct {
	corner int
	after  []int
}

// toldTurns returns all flips of a right list that can be done.
func toldTurns(r impl.Region, laid []int) []turn {
	var list []turn
	all := dominoesOf(r, laid)
	for corner := range cornersOf(r) {
		if after, ok := toldFlip(r, laid, all, corner); ok {
			list = append(list, turn{corner, after})
		}
	}
	return list
}

// toldRises returns the flips of a tiling of a simple region that change the height of their corner by as much.
func toldRises(r impl.Region, laid []int, rise int) []turn {
	var list []turn
	heights := toldHeights(r, laid)
	for _, f := range toldTurns(r, laid) {
		if toldHeights(r, f.after)[f.corner]-heights[f.corner] == rise {
			list = append(list, f)
		}
	}
	return list
}

func turnCorners(list []turn) []int {
	var corners []int
	for _, f := range list {
		corners = append(corners, f.corner)
	}
	return corners
}

// differing counts the cells whose domino goes another way in another list.
func differing(a []int, b []int) int {
	many := 0
	for i := range a {
		if a[i] != b[i] {
			many++
		}
	}
	return many
}

// stepsFrom returns for each tiling how many flips lead to it from one of them, and -1 if none do. Two tilings with four different cells differ by a flip, because what differs goes round, and only a square goes round over four cells.
func stepsFrom(tilings [][]int, first int) []int {
	steps := slices.Repeat([]int{-1}, len(tilings))
	steps[first] = 0
	for work := []int{first}; len(work) > 0; work = work[1:] {
		for i := range tilings {
			if steps[i] < 0 && differing(tilings[work[0]], tilings[i]) == 4 {
				steps[i] = steps[work[0]] + 1
				work = append(work, i)
			}
		}
	}
	return steps
}

// holedRegions returns regions with a hole or two, with flips but for the first two, some of more than 16 cells.
func holedRegions(t *testing.T) []impl.Region {
	t.Helper()
	var list []impl.Region
	for _, text := range []string{
		"###/#.#/###", "####/#..#/#..#/####",
		"#####/#.###/#####", "####/#..#/####/####", "#####/#.###/###..", "######/#.##.#/######", ".###/##.#/####/##..",
		"######/#....#/######/######", "#####/#####/##.##/#####/#####", "######/#.####/####.#/######",
	} {
		list = append(list, region(t, text))
	}
	return list
}

// flipFields returns right lists: all of small regions, tilings of regions of every field, also with holes, and these without their first domino.
func flipFields(t *testing.T) []field {
	t.Helper()
	list := append(laidFields(), tiledFields()...)
	for _, r := range append(holedRegions(t), someRegions()...) {
		for _, laid := range impl.TilingsAll(r) {
			less := slices.Clone(laid)
			for cell, way := range laid {
				if way != impl.ToNone {
					less[cell], less[indexOf(r, aside(placeOf(r, cell), way))] = impl.ToNone, impl.ToNone
					break
				}
			}
			list = append(list, field{r, laid}, field{r, less})
		}
	}
	return list
}

// wrongFlips returns fields that are wrong although two dominoes seem to lie around a corner, and all other wrong ones.
func wrongFlips() []field {
	square := func(wide int, many int) []int {
		laid := make([]int, many)
		laid[0], laid[1], laid[wide], laid[wide+1] = impl.ToEast, impl.ToWest, impl.ToEast, impl.ToWest
		return laid
	}
	return append(wrongFields(),
		field{filled(5, 5, 25), square(5, 25)},
		field{filled(6, 6, 36), square(6, 36)},
		field{filled(7, 2, 14), square(7, 14)},
		field{filled(2, 7, 14), square(2, 14)},
		field{filled(2, 2, 4), square(2, 5)},
		field{filled(3, 2, 6), square(3, 5)},
		field{filled(3, 2, 6), square(3, 7)},
		field{filled(3, 3, 9), square(3, 6)},
		field{filled(2, 2, 3), square(2, 4)},
		field{filled(2, 2, 0), square(2, 4)},
		field{filled(3, 2, 6), []int{1, 3, 5, 1, 3, 0}},
		field{filled(3, 2, 6), []int{1, 3, 2, 1, 3, 0}},
		field{filled(3, 2, 6), []int{2, 2, 0, 4, 4, -1}},
		field{filled(2, 2, 4), []int{1, 1, 3, 3}},
		field{filled(2, 2, 4), []int{1, 0, 0, 3}},
		field{filled(2, 2, 4), []int{2, 0, 0, 4}},
		field{filled(2, 2, 4), []int{1, 3, 4, 3}},
	)
}

// simpleTilings returns tilings of simple regions, from the first to the last: all of most regions.
func simpleTilings() []field {
	var list []field
	for _, r := range simpleRegions() {
		for _, laid := range someTilings(r, 12) {
			list = append(list, field{r, laid})
		}
	}
	return list
}

// notSimpleTilings returns lists that are no tiling of a simple region, among them tilings of other regions, and lists that are no tiling, that can be flipped.
func notSimpleTilings(t *testing.T) []field {
	t.Helper()
	list := append(wrongFlips(), noTilings(t)...)
	for _, r := range holedRegions(t) {
		for _, laid := range impl.TilingsAll(r) {
			list = append(list, field{r, laid})
		}
	}
	for _, f := range tiledFields() {
		if !isSimple(f.r) {
			list = append(list, f)
		}
	}
	return list
}
