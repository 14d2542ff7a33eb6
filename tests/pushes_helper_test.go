package tests

import (
	"math/rand"
	"slices"
	"sync"
	"testing"

	"loop.example/dominotilings/impl"
)

// slope is a simple region with all its tilings in their order, and where each push leads each of them, told by heights alone: to the tiling whose height at the corner is another one by 4, and whose other heights are the same, if there is one.
type slope struct {
	r     impl.Region
	hills []hill
	next  map[impl.Push][]int
}

// heightsKey tells heights, of which none is below -100, as a text.
func heightsKey(heights []int) string {
	key := make([]byte, len(heights))
	for corner, height := range heights {
		key[corner] = byte(height + 100)
	}
	return string(key)
}

func slopeOf(r impl.Region) slope {
	s := slope{r, hillsOf(r, 1<<16), map[impl.Push][]int{}}
	places := map[string]int{}
	for i, h := range s.hills {
		places[heightsKey(h.heights)] = i
	}
	for _, p := range allPushes(r) {
		for i, h := range s.hills {
			moved := slices.Clone(h.heights)
			moved[p.Corner] -= 4
			if p.Up {
				moved[p.Corner] += 8
			}
			to, found := places[heightsKey(moved)]
			if !found {
				to = i
			}
			s.next[p] = append(s.next[p], to)
		}
	}
	return s
}

// onward returns where tilings, told by their places, are led by a push.
func (s slope) onward(from []int, p impl.Push) []int {
	to := make([]int, len(from))
	for i, place := range from {
		to[i] = s.next[p][place]
	}
	return to
}

func (s slope) places() []int {
	list := make([]int, len(s.hills))
	for i := range list {
		list[i] = i
	}
	return list
}

// ledBy returns where pushes lead each tiling.
func (s slope) ledBy(list []impl.Push) []int {
	to := s.places()
	for _, p := range list {
		to = s.onward(to, p)
	}
	return to
}

// manyPlaces counts different places.
func manyPlaces(list []int) int {
	list = slices.Clone(list)
	slices.Sort(list)
	return len(slices.Compact(list))
}

// leastFirst returns how many pushes from the beginning of a list lead all tilings to one, and -1 if all of them do not.
func (s slope) leastFirst(list []impl.Push) int {
	to := s.places()
	for many := range len(list) + 1 {
		if manyPlaces(to) == 1 {
			return many
		}
		if many < len(list) {
			to = s.onward(to, list[many])
		}
	}
	return -1
}

// leastLast returns how many pushes at the end of a list lead all tilings to one, and to which one, and -1 if all of them do not.
func (s slope) leastLast(list []impl.Push) (int, int) {
	to := s.places()
	for many := range len(list) + 1 {
		if manyPlaces(to) == 1 {
			return many, to[0]
		}
		if many == len(list) {
			break
		}
		// Where the push ahead of these leads, these lead on.
		ahead := s.next[list[len(list)-1-many]]
		further := make([]int, len(to))
		for i, place := range ahead {
			further[i] = to[place]
		}
		to = further
	}
	return -1, -1
}

// allPushes returns the pushes of all corners of the field, up and down.
func allPushes(r impl.Region) []impl.Push {
	var list []impl.Push
	for corner := range cornersOf(r) {
		list = append(list, impl.Push{Corner: corner, Up: true}, impl.Push{Corner: corner})
	}
	return list
}

// slopes returns all simple regions with two tilings or more, and some with one and with none.
var slopes = sync.OnceValue(func() []slope {
	var list []slope
	for i, r := range simpleRegions() {
		if i%20 == 0 || impl.TilingsMany(r) > 1 {
			list = append(list, slopeOf(r))
		}
	}
	return list
})

// steepSlopes returns those of them with more than 16 cells, and smallSlopes the others.
func steepSlopes() []slope {
	return slices.DeleteFunc(slices.Clone(slopes()), func(s slope) bool { return countCells(s.r) <= 16 })
}

func smallSlopes() []slope {
	return slices.DeleteFunc(slices.Clone(slopes()), func(s slope) bool { return countCells(s.r) > 16 })
}

// somePushes returns pushes most of which are around corners inside of the field, so many out of ten up.
func somePushes(r impl.Region, dice *rand.Rand, many int, ups int) []impl.Push {
	list := make([]impl.Push, many)
	for i := range list {
		x, y := 1+dice.Intn(max(1, r.Wide-1)), 1+dice.Intn(max(1, r.Tall-1))
		list[i] = impl.Push{Corner: y*(r.Wide+1) + x, Up: dice.Intn(10) < ups}
		if dice.Intn(8) == 0 {
			list[i].Corner = dice.Intn(cornersOf(r))
		}
	}
	return list
}

// pushLists returns lists of pushes: none, few, and as many as there may be, coupled ones and others.
func pushLists(r impl.Region, dice *rand.Rand) [][]impl.Push {
	one := allPushes(r)[dice.Intn(2*cornersOf(r))]
	return [][]impl.Push{
		nil,
		{one},
		somePushes(r, dice, 1+dice.Intn(6), 5),
		somePushes(r, dice, 6+dice.Intn(20), dice.Intn(11)),
		somePushes(r, dice, 30+dice.Intn(60), 10*dice.Intn(2)),
		somePushes(r, dice, impl.MaxPushes-1, 9),
		somePushes(r, dice, impl.MaxPushes, 1+dice.Intn(9)),
	}
}

// wrongPushes returns pushes around corners that the field does not have.
func wrongPushes(r impl.Region) []impl.Push {
	var list []impl.Push
	for _, corner := range append(farNumbers(), -2, -cornersOf(r), cornersOf(r), cornersOf(r)+1, 2*cornersOf(r), 49, impl.NoHeight) {
		if corner < 0 || corner >= cornersOf(r) {
			list = append(list, impl.Push{Corner: corner, Up: true}, impl.Push{Corner: corner})
		}
	}
	return list
}

// wrongLists returns lists that are not valid for a region, because of one push or because there are too many.
func wrongLists(r impl.Region) [][]impl.Push {
	good := impl.Push{Corner: cornersOf(r) - 1, Up: true}
	list := [][]impl.Push{
		slices.Repeat([]impl.Push{good}, impl.MaxPushes+1),
		slices.Repeat([]impl.Push{{}}, impl.MaxPushes+1),
		slices.Repeat([]impl.Push{good}, 1<<12),
	}
	for _, p := range wrongPushes(r) {
		list = append(list, []impl.Push{p}, []impl.Push{p, good}, []impl.Push{good, p}, []impl.Push{good, p, good})
	}
	full := slices.Repeat([]impl.Push{good}, impl.MaxPushes)
	full[impl.MaxPushes-1].Corner = cornersOf(r)
	return append(list, full)
}

// notSimple returns regions that are not valid and such that are not simple.
func notSimple(t *testing.T) []impl.Region {
	t.Helper()
	return slices.Concat(badRegions(), twistedRegions(t), holedRegions(t))
}

// pushesOf reads pushes from a text: corners with a plus sign behind them for up, or a minus sign for down.
func pushesOf(text string) []impl.Push {
	var list []impl.Push
	corner := 0
	for _, letter := range text {
		switch letter {
		case '+', '-':
			list = append(list, impl.Push{Corner: corner, Up: letter == '+'})
			corner = 0
		case ' ':
		default:
			corner = 10*corner + int(letter-'0')
		}
	}
	return list
}
