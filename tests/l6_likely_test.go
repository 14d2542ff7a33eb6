package tests

import (
	"slices"
	"testing"

	"loop.example/dominotilings/impl"
)

// toldBetween counts the pushes that lead one tiling to another one.
func (s slope) toldBetween(from int, to int) int {
	many := 0
	for _, next := range s.next {
		if next[from] == to {
			many++
		}
	}
	return many
}

func checkBetween(t *testing.T, s slope, from int, to int) {
	t.Helper()
	a, b := s.hills[from].laid, s.hills[to].laid
	there, back := impl.PushesFrom(s.r, a, b), impl.PushesFrom(s.r, b, a)
	if there != s.toldBetween(from, to) || there != back {
		t.Fatal(impl.LaidText(s.r, a), impl.LaidText(s.r, b), there, back)
	}
	if from != to && there > 1 {
		t.Fatal("more than one", impl.LaidText(s.r, a), impl.LaidText(s.r, b), there)
	}
	if from == to && there != 2*cornersOf(s.r)-len(impl.FlipsOf(s.r, a)) {
		t.Fatal("itself", impl.LaidText(s.r, a), there)
	}
}

func TestP26ThereAndBackIsAsLikely(t *testing.T) {
	for _, s := range slopes() {
		for from := 0; from < len(s.hills); from += 1 + len(s.hills)/20 {
			checkBetween(t, s, from, from)
			for to := range s.hills {
				// Of most pairs of many tilings none is beside the other one.
				if to%(1+len(s.hills)/20) == 0 || s.toldBetween(from, to) > 0 {
					checkBetween(t, s, from, to)
				}
			}
		}
	}
}

func TestP26WhatIsNoTilingIsNotReached(t *testing.T) {
	for _, p := range append(wrongTilingPairs(t), wrongWays(t)...) {
		if many := impl.PushesFrom(p.r, p.a, p.b); many != -1 {
			t.Fatal(p, many)
		}
	}
	for _, f := range notSimpleTilings(t) {
		if many := impl.PushesFrom(f.r, f.laid, f.laid); many != -1 {
			t.Fatal(f, many)
		}
	}
}

func TestP26PushesBetweenTexts(t *testing.T) {
	for _, c := range []struct {
		from string
		to   string
		want int
	}{
		{"ew", "ew", 12},
		{"s/n", "s/n", 12},
		{"ew./.ew", "ew./.ew", 24},
		{"ew/ew", "ew/ew", 17},
		{"ew/ew", "ss/nn", 1},
		{"ss/nn", "ew/ew", 1},
		{"ews/ewn", "ews/ewn", 23},
		{"sss/nnn", "sss/nnn", 22},
		{"sew/new", "sew/new", 23},
		{"ews/ewn", "sss/nnn", 1},
		{"sew/new", "sss/nnn", 1},
		{"sew/new", "ews/ewn", 0},
		{"ewew/ewew/ewew/ewew", "ewew/ewew/ewew/ewew", 44},
		{"ewew/ewew/ewew/ewew", "ewew/ssew/nnew/ewew", 1},
		{"ewew/ewew/ewew/ewew", "ewew/ssss/nnnn/ewew", 0},
		{"ewewew/ewewew/ewewew/ewewew", "ewewew/ewewew/ewewew/ewewew", 61},
	} {
		r, a, first := impl.ReadLaid(c.from)
		_, b, second := impl.ReadLaid(c.to)
		if many := impl.PushesFrom(r, a, b); !first || !second || many != c.want {
			t.Error(c.from, c.to, many)
		}
	}
}

func TestP27AllTilingsAreAsLikely(t *testing.T) {
	for _, s := range smallSlopes() {
		for to, h := range s.hills {
			into := impl.PushesInto(s.r, h.laid)
			told := 0
			for from := range s.hills {
				told += s.toldBetween(from, to)
			}
			if into != told || into != 2*impl.CornerMany(s.r) {
				t.Fatal(impl.LaidText(s.r, h.laid), into, told)
			}
		}
	}
}

func TestP27OtherArgumentsAreNotReached(t *testing.T) {
	for _, s := range steepSlopes() {
		for _, h := range s.hills[:min(1, len(s.hills))] {
			if into := impl.PushesInto(s.r, h.laid); into != -1 {
				t.Fatal(impl.LaidText(s.r, h.laid), into)
			}
		}
	}
	for _, f := range notSimpleTilings(t) {
		if into := impl.PushesInto(f.r, f.laid); into != -1 {
			t.Fatal(f, into)
		}
	}
	for _, s := range slopes() {
		lists := [][]int{nil, {}, make([]int, len(s.r.Cells))}
		for _, h := range s.hills[:min(1, len(s.hills))] {
			lists = append(lists, h.laid[1:], append(slices.Clone(h.laid), 0), h.heights)
		}
		for _, laid := range lists {
			if into := impl.PushesInto(s.r, laid); into != -1 {
				t.Fatal(impl.RegionText(s.r), laid, into)
			}
		}
	}
}

func TestP27RegionsOfManyCells(t *testing.T) {
	for text, want := range map[string]int{
		"ew":                          12,
		"ew/ew":                       18,
		"sss/nnn":                     24,
		"ewewew":                      28,
		"ewewew/......":               42,
		"ewew/ewew/ewew/ewew":         50,
		"ewewss/ewewnn/..ewew":        56,
		"ewewew/ewewew/ew..ew/......": 70,
		"ewewss/ewewnn/ewewew":        -1,
		"ewewew/ewewew/ewew..":        56,
		"ewewew/ewewew/ewew../ew....": -1,
		"ewewew/ewewew/ewewew/ewewew": -1,
		"##":                          -1,
		"ew#":                         -1,
		"sew/n.s/ewn":                 -1,
		"ew.ew":                       -1,
		".":                           -1,
	} {
		r, laid, ok := impl.ReadLaid(text)
		if into := impl.PushesInto(r, laid); !ok || into != want {
			t.Error(text, ok, into)
		}
	}
}

// toldSum is HeightSum for a corner that is there.
func (s slope) toldSum(corner int) int {
	sum := 0
	for _, h := range s.hills {
		if h.heights[corner] != impl.NoHeight {
			sum += h.heights[corner]
		}
	}
	return sum
}

// cornerUsed reports whether a corner belongs to a cell.
func cornerUsed(r impl.Region, corner int) bool {
	for _, p := range squareAround(r, corner) {
		if within(r, p.x, p.y) {
			return true
		}
	}
	return false
}

func checkSums(t *testing.T, s slope) {
	t.Helper()
	low, _ := impl.Lowest(s.r)
	high, _ := impl.Highest(s.r)
	under, over := impl.HeightsOf(s.r, low), impl.HeightsOf(s.r, high)
	many := impl.TilingsMany(s.r)
	for corner := range cornersOf(s.r) {
		sum := impl.HeightSum(s.r, corner)
		if sum != s.toldSum(corner) {
			t.Fatal(impl.RegionText(s.r), corner, sum)
		}
		if many == 0 || !cornerUsed(s.r, corner) {
			if sum != 0 {
				t.Fatal("not 0", impl.RegionText(s.r), corner, sum)
			}
			continue
		}
		if sum < many*under[corner] || sum > many*over[corner] || (sum-many*under[corner])%4 != 0 {
			t.Fatal("not between", impl.RegionText(s.r), corner, sum)
		}
	}
}

func TestP102MeansLieBetween(t *testing.T) {
	for _, s := range slopes() {
		checkSums(t, s)
		for _, p := range wrongPushes(s.r) {
			if sum := impl.HeightSum(s.r, p.Corner); sum != -1000000 {
				t.Fatal(impl.RegionText(s.r), p.Corner, sum)
			}
		}
	}
	for _, r := range notSimple(t) {
		for _, corner := range allCorners(filled(6, 6, 0)) {
			if sum := impl.HeightSum(r, corner); sum != -1000000 {
				t.Fatal(r, corner, sum)
			}
		}
	}
}

func TestP102SumsOfTexts(t *testing.T) {
	for text, want := range map[string][]int{
		"#":       {0, 0, 0, 0},
		"###/.#.": {0, 0, 0, 0, 0, 0, 0, 0, 0, 0, 0, 0},
		"##":      {0, 1, 0, -1, -2, -1},
		"#/#":     {0, 1, -1, 2, 0, 1},
		"##/..":   {0, 0, 0, 0, -1, 0, 1, 2, 1},
		"../##":   {0, 1, 0, -1, -2, -1, 0, 0, 0},
		"##/##":   {0, 2, 0, -2, 0, -2, 0, 2, 0},
		"###/###": {0, 3, 0, 3, -3, 2, 1, 6, 0, 3, 0, 3},
		".##/.##": {0, 0, -2, 0, 0, 2, 0, 2, 0, 0, -2, 0},
	} {
		r := region(t, text)
		var sums []int
		for corner := range cornersOf(r) {
			sums = append(sums, impl.HeightSum(r, corner))
		}
		if !slices.Equal(sums, want) {
			t.Error(text, sums)
		}
	}
}
