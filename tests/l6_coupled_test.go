package tests

import (
	"math/rand"
	"slices"
	"testing"

	"loop.example/dominotilings/impl"
)

// coupledLists returns lists of pushes, among them one that has just been coupled, and the same one without its last push.
func coupledLists(s slope, dice *rand.Rand) [][]impl.Push {
	list := pushLists(s.r, dice)
	if many := s.leastFirst(list[len(list)-1]); many > 0 {
		list = append(list, list[len(list)-1][:many-1], list[len(list)-1][:many])
	}
	return append(list, allPushes(s.r))
}

func TestP24WhatIsCoupledForTwoIsCoupledForAll(t *testing.T) {
	dice := rand.New(rand.NewSource(8))
	met := map[bool]int{}
	for _, s := range slopes() {
		for _, list := range coupledLists(s, dice) {
			coupled := impl.Coupled(s.r, list)
			if coupled != (manyPlaces(s.ledBy(list)) == 1) {
				t.Fatal(impl.RegionText(s.r), list, coupled)
			}
			met[coupled]++
			if !coupled || len(list) == impl.MaxPushes {
				continue
			}
			further := allPushes(s.r)[dice.Intn(2*cornersOf(s.r))]
			if !impl.Coupled(s.r, append(slices.Clone(list), further)) {
				t.Fatal("no longer", impl.RegionText(s.r), list, further)
			}
		}
	}
	if met[true] < 500 || met[false] < 500 {
		t.Error("not enough lists", met)
	}
}

func TestP98PushesBringTogether(t *testing.T) {
	dice := rand.New(rand.NewSource(9))
	for _, s := range slopes() {
		for _, list := range coupledLists(s, dice) {
			many := impl.PushedMany(s.r, list)
			if many != manyPlaces(s.ledBy(list)) || many > impl.TilingsMany(s.r) {
				t.Fatal(impl.RegionText(s.r), list, many)
			}
			if len(list) == impl.MaxPushes {
				continue
			}
			further := allPushes(s.r)[dice.Intn(2*cornersOf(s.r))]
			if more := impl.PushedMany(s.r, append(slices.Clone(list), further)); more > many {
				t.Fatal("more", impl.RegionText(s.r), list, further, more)
			}
		}
	}
}

func TestP99FromThenOnItIsCoupled(t *testing.T) {
	dice := rand.New(rand.NewSource(10))
	for _, s := range slopes() {
		for _, list := range coupledLists(s, dice) {
			many := impl.CoupledAt(s.r, list)
			if many != s.leastFirst(list) {
				t.Fatal(impl.RegionText(s.r), list, many)
			}
			if (many < 0) == impl.Coupled(s.r, list) {
				t.Fatal("all", impl.RegionText(s.r), list, many)
			}
			if many >= 0 && !impl.Coupled(s.r, list[:many]) || many > 0 && impl.Coupled(s.r, list[:many-1]) {
				t.Fatal("one fewer", impl.RegionText(s.r), list, many)
			}
		}
	}
}

// checkPast looks where all pushes lead each tiling, with pushes ahead of them, too, and where fewer of the last ones lead.
func checkPast(t *testing.T, s slope, list []impl.Push, ahead []impl.Push, laid []int, many int) {
	t.Helper()
	ahead = ahead[:min(len(ahead), impl.MaxPushes-len(list))]
	longer := slices.Concat(ahead, list)
	for i := 0; i < len(s.hills); i += 1 + len(s.hills)/6 {
		if after := impl.PushRun(s.r, s.hills[i].laid, longer); !slices.Equal(after, laid) {
			t.Fatal("ahead", impl.RegionText(s.r), longer, after, laid)
		}
	}
	if again, last, ok := impl.FromPast(s.r, longer); !ok || last != many || !slices.Equal(again, laid) {
		t.Fatal("with more", impl.RegionText(s.r), longer, again, last, ok)
	}
	if again, last, ok := impl.FromPast(s.r, list[len(list)-many:]); !ok || last != many || !slices.Equal(again, laid) {
		t.Fatal("with these alone", impl.RegionText(s.r), list, many, again, last, ok)
	}
	if many > 0 && impl.PushedMany(s.r, list[len(list)-many+1:]) < 2 {
		t.Fatal("with fewer", impl.RegionText(s.r), list, many)
	}
}

func TestP25WhatWasPushedBeforeDoesNotMatter(t *testing.T) {
	dice := rand.New(rand.NewSource(11))
	for _, s := range slopes() {
		lists := coupledLists(s, dice)
		for i, list := range lists {
			laid, many, ok := impl.FromPast(s.r, list)
			want, place := s.leastLast(list)
			if ok != (want >= 0) || ok && (many != want || !slices.Equal(laid, s.hills[place].laid)) {
				t.Fatal(impl.RegionText(s.r), list, laid, many, ok)
			}
			if !ok && (many != 0 || len(laid) != 0) {
				t.Fatal("nothing", impl.RegionText(s.r), list, laid, many)
			}
			if ok {
				checkPast(t, s, list, lists[(i+1)%len(lists)], laid, many)
			}
		}
	}
}

// checkNotCoupled looks at what the chapter says of lists that are not coupled, or of no tilings at all.
func checkNotCoupled(t *testing.T, r impl.Region, list []impl.Push, pushed int) {
	t.Helper()
	if impl.Coupled(r, list) || impl.CoupledAt(r, list) != -1 || impl.PushedMany(r, list) != pushed {
		t.Fatal(r, list, impl.Coupled(r, list), impl.CoupledAt(r, list), impl.PushedMany(r, list))
	}
	if laid, many, ok := impl.FromPast(r, list); ok || many != 0 || len(laid) != 0 {
		t.Fatal(r, list, laid, many, ok)
	}
}

func TestP24P25P98P99OtherArguments(t *testing.T) {
	for _, r := range notSimple(t) {
		for _, list := range [][]impl.Push{nil, {}, {{}}, pushesOf("4+ 4-"), slices.Repeat(pushesOf("5+ 6+ 10+ 16+"), 32)} {
			checkNotCoupled(t, r, list, -1)
		}
	}
	for _, s := range slopes() {
		for _, list := range wrongLists(s.r) {
			checkNotCoupled(t, s.r, list, -1)
		}
		if len(s.hills) == 0 {
			checkNotCoupled(t, s.r, nil, 0)
			checkNotCoupled(t, s.r, allPushes(s.r), 0)
			checkNotCoupled(t, s.r, make([]impl.Push, impl.MaxPushes), 0)
		}
	}
}

// TestP24P25P98P99WrongBehindCoupled has lists whose first pushes, or whose last ones, are coupled, but that are not valid.
func TestP24P25P98P99WrongBehindCoupled(t *testing.T) {
	r := filled(3, 2, 6)
	coupled := pushesOf("5+ 6+")
	for _, p := range wrongPushes(r) {
		checkNotCoupled(t, r, append(slices.Clone(coupled), p), -1)
		checkNotCoupled(t, r, append([]impl.Push{p}, coupled...), -1)
	}
	long := slices.Repeat(coupled, impl.MaxPushes/2)
	if !impl.Coupled(r, long) || impl.CoupledAt(r, long) != 2 || impl.PushedMany(r, long) != 1 {
		t.Error("not coupled")
	}
	if laid, many, ok := impl.FromPast(r, long); !ok || many != 2 || impl.LaidText(r, laid) != "sew/new" {
		t.Error(laid, many, ok)
	}
	checkNotCoupled(t, r, append(long, impl.Push{}), -1)
}

func TestP24P25P98P99PushesOfTexts(t *testing.T) {
	for _, c := range []struct {
		text   string
		list   string
		pushed int
		first  int
		last   int
		want   string
	}{
		{"#", "", 0, -1, 0, ""},
		{"#", "0+ 3-", 0, -1, 0, ""},
		{"###/.#.", "5+", 0, -1, 0, ""},
		{"##", "", 1, 0, 0, "ew"},
		{"##", "0+ 1- 5+", 1, 0, 0, "ew"},
		{"##./.##", "6+ 9-", 1, 0, 0, "ew./.ew"},
		{"##/##", "", 2, -1, 0, ""},
		{"##/##", "0+ 1- 3+ 5- 8-", 2, -1, 0, ""},
		{"##/##", "4+", 1, 1, 1, "ss/nn"},
		{"##/##", "4-", 1, 1, 1, "ew/ew"},
		{"##/##", "4+ 4-", 1, 1, 1, "ew/ew"},
		{"##/##", "0- 4+ 8+", 1, 2, 2, "ss/nn"},
		{"##/##", "4- 8+ 4+ 0+ 1-", 1, 1, 3, "ss/nn"},
		{".##/.##", "6+", 1, 1, 1, ".ew/.ew"},
		{"###/###", "", 3, -1, 0, ""},
		{"###/###", "5+", 2, -1, 0, ""},
		{"###/###", "6+", 2, -1, 0, ""},
		{"###/###", "6+ 5+", 2, -1, 0, ""},
		{"###/###", "5+ 6+", 1, 2, 2, "sew/new"},
		{"###/###", "6- 5-", 1, 2, 2, "ews/ewn"},
		{"###/###", "6+ 5+ 6+", 1, 3, 2, "sew/new"},
		{"###/###", "5+ 6+ 5-", 1, 2, 3, "sew/new"},
		{"###/###", "5+ 6+ 6-", 1, 2, 3, "sss/nnn"},
		{"###/###", "5+ 6+ 6- 5-", 1, 2, 2, "ews/ewn"},
		{"###/###", "5+ 5-", 2, -1, 0, ""},
		{"###/###", "0+ 5+ 3- 6+ 11+", 1, 4, 4, "sew/new"},
	} {
		r, list := region(t, c.text), pushesOf(c.list)
		coupled := c.want != ""
		if impl.PushedMany(r, list) != c.pushed || impl.Coupled(r, list) != coupled || impl.CoupledAt(r, list) != c.first {
			t.Error(c.text, c.list, impl.PushedMany(r, list), impl.Coupled(r, list), impl.CoupledAt(r, list))
		}
		if laid, many, ok := impl.FromPast(r, list); ok != coupled || many != c.last || impl.LaidText(r, laid) != c.want {
			t.Error(c.text, c.list, laid, many, ok)
		}
	}
}
