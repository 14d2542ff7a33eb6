package tests

import (
	"math"
	"slices"
	"testing"

	"loop.example/dominotilings/impl"
)

// flipMakers are all functions of the chapter that return a list, for a region and two lists. Those that take one list take the first; flips are told by the second.
func flipMakers() map[string]func(p pair) []int {
	flip := func(corner int) func(p pair) []int {
		return func(p pair) []int {
			laid, _ := impl.FlipOne(p.r, p.a, corner)
			return laid
		}
	}
	return map[string]func(p pair) []int{
		"FlipOne":            flip(5),
		"FlipOne elsewhere":  flip(4),
		"FlipOne the first":  flip(0),
		"FlipOne nowhere":    flip(-1),
		"FlipOne beyond all": flip(1 << 40),
		"FlipsOf":            func(p pair) []int { return impl.FlipsOf(p.r, p.a) },
		"DownOf":             func(p pair) []int { return impl.DownOf(p.r, p.a) },
		"UpOf":               func(p pair) []int { return impl.UpOf(p.r, p.a) },
		"FlipRun": func(p pair) []int {
			laid, _ := impl.FlipRun(p.r, p.a, p.b)
			return laid
		},
		"FlipRun of none": func(p pair) []int {
			laid, _ := impl.FlipRun(p.r, p.a, nil)
			return laid
		},
		"DownAll": func(p pair) []int {
			laid, _ := impl.DownAll(p.r, p.a)
			return laid
		},
		"FlipWay": func(p pair) []int {
			corners, _ := impl.FlipWay(p.r, p.a, p.b)
			return corners
		},
	}
}

// askFlips calls all functions of the chapter that return no list.
func askFlips(p pair, corners []int) {
	for _, corner := range corners {
		impl.FlipMay(p.r, p.a, corner)
		impl.FlipRise(p.r, p.a, corner)
	}
	impl.ReachMany(p.r, p.a)
	impl.FlipLines(p.r)
	impl.Frozen(p.r, p.a)
}

// flipPairs returns pairs of tilings, and of a list and corners, for which each function has a result, and some for which it has none.
func flipPairs(t *testing.T) []pair {
	t.Helper()
	list := heightPairs(t)
	for _, text := range []string{"ews/ewn", "sss/nnn", "ew#/ew#", "ewew/ewew/ewew/ewew", "sewew/n.sew/ewnew", "ew.ew/ew.ew", "ew", "..."} {
		r, laid, ok := impl.ReadLaid(text)
		if !ok {
			t.Fatal(text)
		}
		list = append(list, pair{r, laid, laid}, pair{r, laid, nil})
		for _, corners := range [][]int{{5, 6}, {6, 5, 8, 11, 13, 16, 18, 5}, {16, 10, 7, 4}, farNumbers(), slices.Repeat([]int{5, 6}, 30), slices.Repeat([]int{5}, 61)} {
			list = append(list, pair{r, laid, corners})
		}
	}
	return list
}

func TestFlipsWriteNowhere(t *testing.T) {
	for name, maker := range flipMakers() {
		for _, p := range flipPairs(t) {
			q := roomyPair(p)
			cells, lists := wholePair(q)
			maker(q)
			askFlips(q, []int{4, 5, 6, -1})
			if after, other := wholePair(q); !slices.Equal(after, cells) || !sameLists(other, lists) {
				t.Fatal(name, "writes into", p)
			}
		}
	}
}

func TestFlipsShareNoMemory(t *testing.T) {
	for name, maker := range flipMakers() {
		for _, p := range flipPairs(t) {
			checkHeightsUnshared(t, name, maker, roomyPair(p))
			// Both lists are the same memory here.
			one := roomyPair(p)
			checkHeightsUnshared(t, name, maker, pair{one.r, one.a, one.a})
		}
	}
}

// TestFlipsAreTheSameEachTime calls each function that walks through tilings several times.
func TestFlipsAreTheSameEachTime(t *testing.T) {
	for _, r := range append(holedRegions(t), filled(4, 4, 16), filled(5, 3, 14), filled(6, 2, 12)) {
		tilings := impl.TilingsAll(r)
		lines := impl.FlipLines(r)
		for i, laid := range tilings {
			many := impl.ReachMany(r, laid)
			way, ok := impl.FlipWay(r, laid, tilings[len(tilings)-1-i])
			for range 3 {
				again, told := impl.FlipWay(r, laid, tilings[len(tilings)-1-i])
				if impl.ReachMany(r, laid) != many || impl.FlipLines(r) != lines || told != ok || !slices.Equal(again, way) {
					t.Fatal(impl.LaidText(r, laid), many, lines, way)
				}
			}
		}
	}
}

func TestNothingPanicsWithFlips(t *testing.T) {
	var list []pair
	for _, p := range flipPairs(t) {
		list = append(list, p, pair{p.r, p.b, p.a}, pair{p.r, nil, p.b}, pair{p.r, p.a, nil})
		for _, far := range []int{math.MinInt, math.MaxInt, impl.NoHeight, -1, 5} {
			list = append(list, pair{p.r, slices.Repeat([]int{far}, len(p.a)), p.b}, pair{p.r, p.a, slices.Repeat([]int{far}, len(p.a))})
		}
	}
	for _, p := range list {
		askFlips(p, allCorners(filled(6, 6, 0)))
		for _, maker := range flipMakers() {
			maker(p)
		}
	}
}
