package tests

import (
	"math"
	"math/rand"
	"slices"
	"testing"

	"loop.example/dominotilings/impl"
)

// region reads a region that a test writes down as a text.
func region(t *testing.T, text string) impl.Region {
	t.Helper()
	r, ok := impl.ReadRegion(text)
	if !ok {
		t.Fatalf("%q is no region", text)
	}
	return r
}

// sameRegion takes nil and empty lists of cells for the same, as the document does.
func sameRegion(a impl.Region, b impl.Region) bool {
	return a.Wide == b.Wide && a.Tall == b.Tall && slices.Equal(a.Cells, b.Cells)
}

func nothing(r impl.Region) bool {
	return sameRegion(r, impl.Region{})
}

// masked returns the region of a field whose cells are the bits of a number.
func masked(wide int, tall int, mask int) impl.Region {
	cells := make([]bool, wide*tall)
	for i := range cells {
		cells[i] = mask>>i&1 == 1
	}
	return impl.Region{Wide: wide, Tall: tall, Cells: cells}
}

// filled returns a field in which the first cells belong to the region.
func filled(wide int, tall int, many int) impl.Region {
	cells := make([]bool, wide*tall)
	for i := range many {
		cells[i] = true
	}
	return impl.Region{Wide: wide, Tall: tall, Cells: cells}
}

// smallRegions returns every region of the fields of at most 12 cells.
func smallRegions() []impl.Region {
	var list []impl.Region
	for wide := 1; wide <= impl.MaxSide; wide++ {
		for tall := 1; tall <= impl.MaxSide; tall++ {
			if wide*tall > 12 {
				continue
			}
			for mask := range 1 << (wide * tall) {
				list = append(list, masked(wide, tall, mask))
			}
		}
	}
	return list
}

// largeRegions returns regions of every field, with few cells and with many, the same ones each time.
func largeRegions() []impl.Region {
	var list []impl.Region
	dice := rand.New(rand.NewSource(1))
	for wide := 1; wide <= impl.MaxSide; wide++ {
		for tall := 1; tall <= impl.MaxSide; tall++ {
			most := min(wide*tall, impl.MaxCells)
			list = append(list, filled(wide, tall, 0), filled(wide, tall, most))
			for range 60 {
				r := filled(wide, tall, dice.Intn(most+1))
				dice.Shuffle(len(r.Cells), func(i int, j int) {
					r.Cells[i], r.Cells[j] = r.Cells[j], r.Cells[i]
				})
				list = append(list, r)
			}
		}
	}
	return list
}

// validRegions returns enough regions to tell a broken promise.
func validRegions() []impl.Region {
	return append(smallRegions(), largeRegions()...)
}

// badRegions returns regions that are not valid, each for one reason or another.
func badRegions() []impl.Region {
	list := []impl.Region{
		{},
		{Wide: 1, Tall: 1},
		{Wide: 0, Tall: 1},
		{Wide: 1, Tall: 0},
		{Wide: 0, Tall: 0, Cells: []bool{true}},
		{Wide: -1, Tall: -1, Cells: []bool{true}},
		{Wide: -2, Tall: -3, Cells: make([]bool, 6)},
		{Wide: -2, Tall: 3, Cells: make([]bool, 6)},
		{Wide: 7, Tall: 1, Cells: make([]bool, 7)},
		{Wide: 1, Tall: 7, Cells: make([]bool, 7)},
		{Wide: 7, Tall: 6, Cells: make([]bool, 42)},
		{Wide: 2, Tall: 2, Cells: make([]bool, 3)},
		{Wide: 2, Tall: 2, Cells: []bool{true, true, true}},
		{Wide: 2, Tall: 2, Cells: make([]bool, 5)},
		{Wide: 2, Tall: 2, Cells: []bool{true, true, true, true, true}},
		{Wide: 3, Tall: 2, Cells: make([]bool, 7)},
		{Wide: math.MinInt, Tall: math.MinInt},
		{Wide: math.MaxInt, Tall: math.MaxInt, Cells: []bool{true}},
		{Wide: math.MaxInt, Tall: 1},
		{Wide: 1 << 32, Tall: 1 << 32},
		filled(5, 5, 25),
		filled(5, 6, 25),
		filled(6, 5, 30),
		filled(6, 6, 25),
		filled(6, 6, 36),
	}
	scattered := filled(6, 6, 36)
	for i := range 11 {
		scattered.Cells[3*i] = false
	}
	return append(list, scattered)
}

// farNumbers are indices that no field has.
func farNumbers() []int {
	return []int{math.MinInt, math.MinInt + 1, -1 << 32, -37, -7, -1, 36, 37, 1 << 32, math.MaxInt - 1, math.MaxInt}
}
