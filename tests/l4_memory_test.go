package tests

import (
	"math"
	"slices"
	"testing"

	"loop.example/dominotilings/impl"
)

// heightMakers are all functions of the chapter that return a list, for a region and two lists. Those that take one list take the first.
func heightMakers() map[string]func(p pair) []int {
	return map[string]func(p pair) []int{
		"HeightsOf":   func(p pair) []int { return impl.HeightsOf(p.r, p.a) },
		"HeightsLow":  func(p pair) []int { return impl.HeightsLow(p.r, p.a, p.b) },
		"HeightsHigh": func(p pair) []int { return impl.HeightsHigh(p.r, p.a, p.b) },
		"TilingBy": func(p pair) []int {
			laid, _ := impl.TilingBy(p.r, p.a)
			return laid
		},
		"TilingLow": func(p pair) []int {
			laid, _ := impl.TilingLow(p.r, p.a, p.b)
			return laid
		},
		"TilingHigh": func(p pair) []int {
			laid, _ := impl.TilingHigh(p.r, p.a, p.b)
			return laid
		},
		"Lowest": func(p pair) []int {
			laid, _ := impl.Lowest(p.r)
			return laid
		},
		"Highest": func(p pair) []int {
			laid, _ := impl.Highest(p.r)
			return laid
		},
	}
}

// askHeights calls all functions of the chapter that return no list.
func askHeights(p pair) {
	impl.Simple(p.r)
	impl.CornerMany(p.r)
	impl.HeightsOk(p.r, p.a)
	impl.HeightsOk(p.r, p.b)
	impl.Below(p.r, p.a, p.b)
	impl.Apart(p.r, p.a, p.b)
}

// roomyPair returns the pair with spare capacity behind its cells and behind its lists.
func roomyPair(p pair) pair {
	first, second := roomyField(field{p.r, p.a}), roomyField(field{p.r, p.b})
	return pair{first.r, first.laid, second.laid}
}

// wholePair returns copies of the cells, of the lists, and of the spare capacity behind them.
func wholePair(p pair) ([]bool, [][]int) {
	return whole(p.r), copyLists([][]int{p.a, p.b})
}

// heightPairs returns pairs of tilings and of heights for which each function has a result, and some for which it has none.
func heightPairs(t *testing.T) []pair {
	t.Helper()
	list := []pair{{r: filled(1, 1, 1)}, {r: filled(1, 1, 0), a: []int{0}, b: []int{0}}}
	for _, text := range []string{"##", "####/####", ".##/.##/...", "####/####/####/####", "##../####", "###/#.#/###", "##.##/##.##", "####/#..#/#..#/####", "####./#..#./.####"} {
		r := region(t, text)
		tilings := impl.TilingsAll(r)
		first, last := tilings[0], tilings[len(tilings)-1]
		list = append(list, pair{r, first, last}, pair{r, first, first}, pair{r, first, make([]int, len(first))})
		list = append(list, pair{r, toldHeights(r, first), toldHeights(r, last)}, pair{r, toldHeights(r, first), first})
	}
	for _, f := range wrongFields() {
		list = append(list, pair{f.r, f.laid, f.laid})
	}
	return list
}

func TestHeightsWriteNowhere(t *testing.T) {
	for name, maker := range heightMakers() {
		for _, p := range heightPairs(t) {
			q := roomyPair(p)
			cells, lists := wholePair(q)
			maker(q)
			askHeights(q)
			if after, other := wholePair(q); !slices.Equal(after, cells) || !sameLists(other, lists) {
				t.Fatal(name, "writes into", p)
			}
		}
	}
}

// checkHeightsUnshared writes into one result and into the arguments: another result stays as it is.
func checkHeightsUnshared(t *testing.T, name string, maker func(p pair) []int, p pair) {
	t.Helper()
	cells, lists := wholePair(p)
	first, second := maker(p), maker(p)
	kept := wholeList(first)
	scribble(second)
	if after, other := wholePair(p); !slices.Equal(wholeList(first), kept) || !slices.Equal(after, cells) || !sameLists(other, lists) {
		t.Fatal(name, "shares memory of", p)
	}
	if !slices.Equal(maker(p), first) {
		t.Fatal(name, "remembers", p)
	}
	invert(p.r)
	scribble(p.a)
	scribble(p.b)
	if !slices.Equal(wholeList(first), kept) {
		t.Fatal(name, "keeps memory of", p)
	}
}

func TestHeightsShareNoMemory(t *testing.T) {
	for name, maker := range heightMakers() {
		for _, p := range heightPairs(t) {
			checkHeightsUnshared(t, name, maker, roomyPair(p))
			// Both lists are the same memory here.
			one := roomyPair(p)
			checkHeightsUnshared(t, name, maker, pair{one.r, one.a, one.a})
		}
	}
}

func TestNothingPanicsWithHeights(t *testing.T) {
	var list []pair
	for _, p := range heightPairs(t) {
		list = append(list, p, pair{p.r, p.b, p.a}, pair{p.r, nil, p.b}, pair{p.r, p.a, nil})
		for _, far := range []int{math.MinInt, math.MaxInt, impl.NoHeight, -1, 5} {
			for _, many := range []int{1, len(p.a), len(p.b), (p.r.Wide + 1) * (p.r.Tall + 1)} {
				if many > 0 && many < 50 {
					list = append(list, pair{p.r, slices.Repeat([]int{far}, many), p.b}, pair{p.r, p.a, slices.Repeat([]int{far}, many)})
				}
			}
		}
	}
	for _, p := range list {
		askHeights(p)
		for _, maker := range heightMakers() {
			maker(p)
		}
	}
}
