package tests

import (
	"math/rand"
	"slices"

	"loop.example/dominotilings/impl"
)

// place is a cell that is told by its column and its row, so that tests need not count indices as the program does.
type place struct {
	x int
	y int
}

// aside tells where a direction leads without the program's help.
func aside(p place, way int) place {
	switch way {
	case impl.ToEast:
		return place{p.x + 1, p.y}
	case impl.ToNorth:
		return place{p.x, p.y + 1}
	case impl.ToWest:
		return place{p.x - 1, p.y}
	case impl.ToSouth:
		return place{p.x, p.y - 1}
	}
	return p
}

func back(way int) int {
	switch way {
	case impl.ToEast:
		return impl.ToWest
	case impl.ToNorth:
		return impl.ToSouth
	case impl.ToWest:
		return impl.ToEast
	case impl.ToSouth:
		return impl.ToNorth
	}
	return way
}

func allWays() []int {
	return []int{impl.ToEast, impl.ToNorth, impl.ToWest, impl.ToSouth}
}

// noWays are numbers that are no direction of a domino.
func noWays() []int {
	return append(farNumbers(), 0, 5, 6, 8, -4)
}

func placeOf(r impl.Region, cell int) place {
	return place{cell % r.Wide, cell / r.Wide}
}

func indexOf(r impl.Region, p place) int {
	return p.y*r.Wide + p.x
}

// domino has the place that comes first by its index, and the other one.
type domino [2]place

// dominoesOf returns the dominoes of a right list, each once.
func dominoesOf(r impl.Region, laid []int) map[domino]bool {
	all := map[domino]bool{}
	for cell, way := range laid {
		if way == impl.ToEast || way == impl.ToNorth {
			p := placeOf(r, cell)
			all[domino{p, aside(p, way)}] = true
		}
	}
	return all
}

// spots returns all dominoes that lie on cells of the region.
func spots(r impl.Region) []domino {
	var list []domino
	for cell := range r.Cells {
		p := placeOf(r, cell)
		for _, way := range []int{impl.ToEast, impl.ToNorth} {
			if q := aside(p, way); within(r, p.x, p.y) && within(r, q.x, q.y) {
				list = append(list, domino{p, q})
			}
		}
	}
	return list
}

func put(r impl.Region, laid []int, d domino) bool {
	first, second := indexOf(r, d[0]), indexOf(r, d[1])
	if laid[first] != impl.ToNone || laid[second] != impl.ToNone {
		return false
	}
	laid[first], laid[second] = impl.ToNorth, impl.ToSouth
	if d[0].y == d[1].y {
		laid[first], laid[second] = impl.ToEast, impl.ToWest
	}
	return true
}

// allLaid returns all lists that lay dominoes on a region: it takes each place for a domino or leaves it out, which is another way than the program's.
func allLaid(r impl.Region) [][]int {
	lists := [][]int{make([]int, len(r.Cells))}
	for _, d := range spots(r) {
		for _, laid := range lists {
			further := slices.Clone(laid)
			if put(r, further, d) {
				lists = append(lists, further)
			}
		}
	}
	return lists
}

// isFull reports whether a right list covers all cells of the region.
func isFull(r impl.Region, laid []int) bool {
	for cell, has := range r.Cells {
		if has && laid[cell] == impl.ToNone {
			return false
		}
	}
	return true
}

// tilingsOf keeps the full ones of all lists in the order of the document.
func tilingsOf(r impl.Region, lists [][]int) [][]int {
	var tilings [][]int
	for _, laid := range lists {
		if isFull(r, laid) {
			tilings = append(tilings, laid)
		}
	}
	slices.SortFunc(tilings, slices.Compare[[]int])
	return tilings
}

// hasAll reports whether a list has all dominoes of another one.
func hasAll(more []int, less []int) bool {
	for cell, way := range less {
		if way != impl.ToNone && more[cell] != way {
			return false
		}
	}
	return true
}

// isRight is LaidOk for a valid region and a list with any numbers, told by places.
func isRight(r impl.Region, laid []int) bool {
	if len(laid) != len(r.Cells) {
		return false
	}
	for cell, way := range laid {
		p := placeOf(r, cell)
		q := aside(p, way)
		if way == impl.ToNone {
			continue
		}
		if !slices.Contains(allWays(), way) || !within(r, p.x, p.y) || !within(r, q.x, q.y) || laid[indexOf(r, q)] != back(way) {
			return false
		}
	}
	return true
}

// someLaid lays dominoes on a region at random, as many as fit in or fewer.
func someLaid(r impl.Region, dice *rand.Rand) []int {
	laid := make([]int, len(r.Cells))
	places := spots(r)
	if len(places) == 0 {
		return laid
	}
	most := dice.Intn(len(places) + 1)
	for _, i := range dice.Perm(len(places))[:most] {
		put(r, laid, places[i])
	}
	return laid
}

// field is a region with a list that lays dominoes on it.
type field struct {
	r    impl.Region
	laid []int
}

// laidFields returns all lists for the regions of at most 9 cells of a field, and some for regions of every field.
func laidFields() []field {
	var list []field
	for _, r := range smallRegions() {
		if len(r.Cells) > 9 {
			continue
		}
		for _, laid := range allLaid(r) {
			list = append(list, field{r, laid})
		}
	}
	dice := rand.New(rand.NewSource(2))
	for _, r := range largeRegions() {
		for range 4 {
			list = append(list, field{r, someLaid(r, dice)})
		}
	}
	return list
}

// tiledFields returns all tilings, as the program tells them, of regions of every field.
func tiledFields() []field {
	var list []field
	for _, r := range validRegions() {
		for _, laid := range impl.TilingsAll(r) {
			list = append(list, field{r, laid})
		}
	}
	return list
}

// wrongFields returns regions with lists that do not lay dominoes on them: regions that are not valid, lists that are too short or too long, directions that are none, and dominoes that are not whole.
func wrongFields() []field {
	var list []field
	for _, r := range badRegions() {
		list = append(list, field{r, nil}, field{r, []int{}}, field{r, make([]int, len(r.Cells))}, field{r, make([]int, 4)})
	}
	list = append(list,
		field{filled(5, 5, 25), []int{1, 3, 1, 3, 0, 0, 0, 0, 0, 0, 0, 0, 0, 0, 0, 0, 0, 0, 0, 0, 0, 0, 0, 0, 0}},
		field{filled(6, 6, 25), make([]int, 36)},
		field{impl.Region{Wide: 7, Tall: 1, Cells: filled(7, 1, 7).Cells}, []int{1, 3, 1, 3, 1, 3, 0}},
	)
	for _, tall := range []int{1, 2, 3} {
		box := filled(2, tall, 2*tall)
		for _, laid := range [][]int{nil, {}, {1}, {1, 3, 0, 0, 0, 0, 0}, make([]int, 2*tall-1), make([]int, 2*tall+1), make([]int, 36)} {
			if len(laid) != 2*tall {
				list = append(list, field{box, laid})
			}
		}
	}
	for _, way := range append(farNumbers(), 5, 6, 7, 8) {
		list = append(list, field{filled(2, 1, 2), []int{way, 3}}, field{filled(2, 1, 2), []int{1, way}}, field{filled(2, 1, 2), []int{way, way}}, field{filled(2, 1, 0), []int{way, 0}})
	}
	return append(list, brokenDominoes()...)
}

// brokenDominoes returns lists in which both ends of a domino do not fit, one is not in the region, or one is behind the edge, also where the index behind the edge is one of the next row.
func brokenDominoes() []field {
	box, gap := filled(2, 2, 4), filled(2, 2, 3)
	row := filled(3, 1, 3)
	return []field{
		{box, []int{1, 0, 0, 0}}, {box, []int{0, 3, 0, 0}}, {box, []int{2, 0, 0, 0}}, {box, []int{0, 0, 0, 4}},
		{box, []int{1, 1, 0, 0}}, {box, []int{1, 4, 0, 0}}, {box, []int{1, 2, 0, 4}}, {box, []int{2, 2, 4, 0}},
		{box, []int{3, 1, 0, 0}}, {box, []int{4, 0, 2, 0}}, {box, []int{3, 0, 0, 0}}, {box, []int{0, 1, 3, 0}},
		{box, []int{0, 0, 2, 0}}, {box, []int{4, 0, 0, 0}}, {box, []int{1, 3, 3, 1}}, {box, []int{1, 3, 1, 0}},
		{row, []int{1, 3, 3}}, {row, []int{1, 1, 3}}, {row, []int{0, 0, 1}}, {row, []int{1, 0, 3}},
		{gap, []int{0, 2, 0, 4}}, {gap, []int{0, 0, 1, 3}}, {gap, []int{1, 3, 1, 3}},
		{filled(2, 1, 0), []int{1, 3}}, {filled(2, 1, 1), []int{1, 3}}, {filled(1, 2, 1), []int{2, 4}},
		{filled(1, 1, 1), []int{1}}, {filled(1, 1, 1), []int{2}}, {filled(1, 1, 1), []int{3}}, {filled(1, 1, 1), []int{4}},
		{filled(1, 1, 0), []int{1}}, {filled(1, 3, 3), []int{1, 3, 0}}, {filled(3, 3, 9), []int{0, 0, 1, 3, 0, 0, 0, 0, 0}},
	}
}
