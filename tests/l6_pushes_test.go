package tests

import (
	"math/rand"
	"slices"
	"testing"

	"loop.example/dominotilings/impl"
)

func TestP97PushesCanBeLeftOut(t *testing.T) {
	dice := rand.New(rand.NewSource(6))
	for _, s := range slopes() {
		for _, list := range append(pushLists(s.r, dice), allPushes(s.r)) {
			if !impl.PushesValid(s.r, list) || len(list) > 0 && !impl.PushesValid(s.r, list[1:]) {
				t.Fatal(impl.RegionText(s.r), list)
			}
		}
		for _, list := range wrongLists(s.r) {
			if impl.PushesValid(s.r, list) {
				t.Fatal(impl.RegionText(s.r), list)
			}
		}
	}
	for _, r := range notSimple(t) {
		for _, list := range [][]impl.Push{nil, {}, {{}}, {{Corner: 1, Up: true}}, {{Corner: 4}, {Corner: 4, Up: true}}} {
			if impl.PushesValid(r, list) {
				t.Fatal(r, list)
			}
		}
	}
}

func TestP97PushesOfEveryCorner(t *testing.T) {
	for _, c := range []struct {
		text string
		list string
		want bool
	}{
		{"#", "", true},
		{"#", "0+ 1- 2+ 3-", true},
		{"#", "4+", false},
		{"##", "5-", true},
		{"##", "6-", false},
		{".##/.##", "0+ 4- 8+", true},
		{"##../.##.", "14- 0+", true},
		{"##../.##.", "15-", false},
		{"###/###", "11+ 11- 0-", true},
		{"###/###", "11+ 12-", false},
		{"######/######/######/######", "34+", true},
		{"######/######/######/######", "35+", false},
		{".", "", false},
		{".", "0+", false},
		{"#.#", "0+", false},
		{"###/#.#/###", "5+", false},
		{"##../#.##/###.", "", false},
	} {
		if valid := impl.PushesValid(region(t, c.text), pushesOf(c.list)); valid != c.want {
			t.Error(c.text, c.list, valid)
		}
	}
	r := filled(3, 2, 6)
	for many, want := range map[int]bool{0: true, 1: true, 127: true, 128: true, 129: false, 130: false, 1 << 16: false} {
		if valid := impl.PushesValid(r, make([]impl.Push, many)); valid != want {
			t.Error(many, valid)
		}
	}
	if impl.MaxPushes != 128 {
		t.Error(impl.MaxPushes)
	}
}

// checkPush looks at a push of one tiling, and at the same push of what it has led to.
func checkPush(t *testing.T, s slope, place int, p impl.Push) {
	t.Helper()
	laid, want := s.hills[place].laid, s.hills[s.next[p][place]].laid
	after := impl.PushOne(s.r, laid, p)
	if !slices.Equal(after, want) {
		t.Fatal(impl.LaidText(s.r, laid), p, after)
	}
	if again := impl.PushOne(s.r, after, p); !slices.Equal(again, after) {
		t.Fatal("again", impl.LaidText(s.r, laid), p, again)
	}
	low, high := laid, after
	if !p.Up {
		low, high = high, low
	}
	if !impl.Below(s.r, low, high) {
		t.Fatal("the wrong way", impl.LaidText(s.r, laid), p, after)
	}
	may := impl.FlipMay(s.r, laid, p.Corner) && (impl.FlipRise(s.r, laid, p.Corner) == 4) == p.Up
	if may == slices.Equal(after, laid) {
		t.Fatal("a flip", impl.LaidText(s.r, laid), p, after)
	}
}

func TestP22PushesFlipOrLeaveAsItIs(t *testing.T) {
	for _, s := range slopes() {
		for i := 0; i < len(s.hills); i += 1 + len(s.hills)/20 {
			for _, p := range allPushes(s.r) {
				checkPush(t, s, i, p)
			}
		}
	}
}

func TestP22PushesKeepTheOrder(t *testing.T) {
	for _, s := range slopes() {
		step := 1 + len(s.hills)/6
		for i := 0; i < len(s.hills); i += step {
			for j := 0; j < len(s.hills); j += step {
				if !underneath(s.hills[i].heights, s.hills[j].heights) {
					continue
				}
				for _, p := range allPushes(s.r) {
					low, high := impl.PushOne(s.r, s.hills[i].laid, p), impl.PushOne(s.r, s.hills[j].laid, p)
					if !impl.Below(s.r, low, high) {
						t.Fatal(impl.LaidText(s.r, s.hills[i].laid), impl.LaidText(s.r, s.hills[j].laid), p, low, high)
					}
				}
			}
		}
	}
}

func TestP22WhatIsNoTilingIsNotPushed(t *testing.T) {
	for _, f := range notSimpleTilings(t) {
		for _, p := range []impl.Push{{}, {Corner: 4, Up: true}, {Corner: 4}, {Corner: 5, Up: true}, {Corner: 5}, {Corner: 16}, {Corner: -1}, {Corner: 49}} {
			if after := impl.PushOne(f.r, f.laid, p); len(after) != 0 {
				t.Fatal(f, p, after)
			}
		}
	}
	for _, s := range slopes() {
		for _, h := range s.hills[:min(1, len(s.hills))] {
			for _, p := range wrongPushes(s.r) {
				if after := impl.PushOne(s.r, h.laid, p); len(after) != 0 {
					t.Fatal(impl.LaidText(s.r, h.laid), p, after)
				}
			}
			right := impl.Push{Corner: 0, Up: true}
			for _, laid := range [][]int{h.laid[1:], append(slices.Clone(h.laid), 0), append(slices.Clone(h.laid), h.laid...), nil, h.heights} {
				if after := impl.PushOne(s.r, laid, right); len(after) != 0 {
					t.Fatal(impl.LaidText(s.r, h.laid), laid, after)
				}
			}
		}
	}
}

func TestP22P23PushesOfTexts(t *testing.T) {
	for _, c := range []struct {
		text string
		list string
		want string
	}{
		{"ew", "", "ew"},
		{"ew", "0+ 1- 2+ 3- 4+ 5-", "ew"},
		{"ew", "6+", ""},
		{"ew/ew", "4+", "ss/nn"},
		{"ew/ew", "4-", "ew/ew"},
		{"ew/ew", "4+ 4+", "ss/nn"},
		{"ew/ew", "4+ 4-", "ew/ew"},
		{"ew/ew", "0+ 1- 2+ 3+ 5- 6+ 7+ 8-", "ew/ew"},
		{"ew/ew", "9+", ""},
		{"ew/ew", "4+ 9+", ""},
		{".ew/.ew", "6+", ".ew/.ew"},
		{".ew/.ew", "6-", ".ss/.nn"},
		{".ew/.ew", "0- 4- 8- 5- 9-", ".ew/.ew"},
		{"ews/ewn", "5+", "sss/nnn"},
		{"ews/ewn", "5-", "ews/ewn"},
		{"ews/ewn", "6+", "ews/ewn"},
		{"ews/ewn", "5+ 6+", "sew/new"},
		{"ews/ewn", "6+ 5+", "sss/nnn"},
		{"sew/new", "5-", "sew/new"},
		{"sew/new", "6- 5-", "ews/ewn"},
		{"sss/nnn", "5- 6+", "ews/ewn"},
		{"sss/nnn", "6+ 5-", "sew/new"},
		{"ewew/ewew/ewew/ewew", "11- 13-", "ewew/ssss/nnnn/ewew"},
		{"ewew/ewew/ewew/ewew", "11- 13- 12-", "ewew/sews/newn/ewew"},
		{"ewew/ewew/ewew/ewew", "6+ 8+ 16+ 18+", "ssss/nnnn/ssss/nnnn"},
		{"ewew/ewew/ewew/ewew", "6- 8- 16- 18- 11+ 13+", "ewew/ewew/ewew/ewew"},
		{"ew#/ew#", "5+", ""},
		{"##/##", "4+", ""},
		{"ew.ew/ew.ew", "7+", ""},
		{"sewew/n.sew/ewnew", "16+", ""},
		{".", "", ""},
	} {
		r, laid, ok := impl.ReadLaid(c.text)
		after := impl.PushRun(r, laid, pushesOf(c.list))
		if !ok || impl.LaidText(r, after) != c.want || c.want == "" && len(after) != 0 {
			t.Error(c.text, c.list, ok, impl.LaidText(r, after))
		}
	}
}

// checkRunOf looks at pushes of one tiling, at once and in two parts.
func checkRunOf(t *testing.T, s slope, place int, list []impl.Push, want []int) {
	t.Helper()
	laid := s.hills[place].laid
	after := impl.PushRun(s.r, laid, list)
	if !slices.Equal(after, want) {
		t.Fatal(impl.LaidText(s.r, laid), list, after, want)
	}
	for _, cut := range []int{0, 1, len(list) / 2, len(list)} {
		cut = min(cut, len(list))
		half := impl.PushRun(s.r, laid, list[:cut])
		if whole := impl.PushRun(s.r, half, list[cut:]); !slices.Equal(whole, after) {
			t.Fatal("in two parts", impl.LaidText(s.r, laid), list, cut, whole)
		}
	}
}

func TestP23AllTilingsStayBetween(t *testing.T) {
	dice := rand.New(rand.NewSource(7))
	for _, s := range slopes() {
		for _, list := range pushLists(s.r, dice) {
			to := s.ledBy(list)
			low, some := impl.Lowest(s.r)
			high, _ := impl.Highest(s.r)
			under, over := impl.PushRun(s.r, low, list), impl.PushRun(s.r, high, list)
			if !some && (len(under) != 0 || len(over) != 0) {
				t.Fatal(impl.RegionText(s.r), list, under, over)
			}
			for i := 0; i < len(s.hills); i += 1 + len(s.hills)/12 {
				checkRunOf(t, s, i, list, s.hills[to[i]].laid)
				if after := impl.PushRun(s.r, s.hills[i].laid, list); !impl.Below(s.r, under, after) || !impl.Below(s.r, after, over) {
					t.Fatal("not between", impl.LaidText(s.r, s.hills[i].laid), list, after)
				}
			}
		}
	}
}

func TestP23RunsOfManyPushes(t *testing.T) {
	r, laid, _ := impl.ReadLaid("ews/ewn")
	list := slices.Repeat(pushesOf("5+ 5-"), impl.MaxPushes/2)
	if after := impl.PushRun(r, laid, list); impl.LaidText(r, after) != "ews/ewn" {
		t.Error(after)
	}
	list[impl.MaxPushes-1].Up = true
	if after := impl.PushRun(r, laid, list); impl.LaidText(r, after) != "sss/nnn" {
		t.Error(after)
	}
	if after := impl.PushRun(r, laid, append(list, impl.Push{})); len(after) != 0 {
		t.Error(after)
	}
	if after := impl.PushRun(r, laid, nil); !slices.Equal(after, laid) {
		t.Error(after)
	}
}

func TestP23OtherArgumentsAreNotPushed(t *testing.T) {
	for _, f := range notSimpleTilings(t) {
		for _, list := range [][]impl.Push{nil, pushesOf("0+"), pushesOf("4+ 4-"), pushesOf("5+ 16+"), {{Corner: -1}}} {
			if after := impl.PushRun(f.r, f.laid, list); len(after) != 0 {
				t.Fatal(f, list, after)
			}
		}
	}
	for _, s := range slopes() {
		if len(s.hills) == 0 {
			continue
		}
		laid := s.hills[0].laid
		for _, list := range wrongLists(s.r) {
			if after := impl.PushRun(s.r, laid, list); len(after) != 0 {
				t.Fatal(impl.LaidText(s.r, laid), list, after)
			}
		}
		for _, other := range [][]int{nil, {}, laid[1:], append(slices.Clone(laid), 0), make([]int, len(laid)), s.hills[0].heights} {
			if after := impl.PushRun(s.r, other, nil); len(after) != 0 {
				t.Fatal(impl.LaidText(s.r, laid), other, after)
			}
		}
	}
}
