package tests

import (
	"math"
	"math/big"
	"slices"
	"testing"

	"loop.example/dominotilings/impl"
)

const lastSeed = 1<<31 - 1

// toldSeed is SeedNext for a seed that may be one, in numbers of any size.
func toldSeed(seed int) int {
	next := new(big.Int).Mul(big.NewInt(int64(seed)), big.NewInt(1103515245))
	next.Add(next, big.NewInt(12345))
	return int(next.Mod(next, big.NewInt(2147483648)).Int64())
}

// someSeeds returns the least and the greatest seeds, and many between them.
func someSeeds() []int {
	list := []int{0, 1, 2, 3, 65535, 65536, 1<<30 - 1, 1 << 30, lastSeed - 2, lastSeed - 1, lastSeed}
	for seed := 17; seed < lastSeed; seed += 1_000_003 {
		list = append(list, seed)
	}
	return list
}

// wrongSeeds returns numbers that are no seed.
func wrongSeeds() []int {
	return []int{-1, -2, -12345, -lastSeed, math.MinInt, math.MinInt + 1, lastSeed + 1, lastSeed + 2, 1 << 32, 1<<32 + 1, 1 << 40, math.MaxInt - 1, math.MaxInt}
}

func TestP100SeedsFollowEachOther(t *testing.T) {
	for _, seed := range someSeeds() {
		next := impl.SeedNext(seed)
		if next != toldSeed(seed) || next < 0 || next > lastSeed {
			t.Fatal(seed, next)
		}
		if seed%2 == next%2 {
			t.Fatal("both even or both odd", seed, next)
		}
	}
	for _, seed := range wrongSeeds() {
		if next := impl.SeedNext(seed); next != -1 {
			t.Error(seed, next)
		}
	}
}

func TestP100SeedsOfNumbers(t *testing.T) {
	for seed, want := range map[int]int{
		0:              12345,
		1:              1103527590,
		1103527590:     377401575,
		lastSeed:       1043980748,
		lastSeed + 1:   -1,
		-1:             -1,
		math.MaxInt:    -1,
		math.MinInt:    -1,
		1<<63 - 1 - 99: -1,
	} {
		if next := impl.SeedNext(seed); next != want {
			t.Error(seed, next)
		}
	}
}

// toldPushes is PushesBy for valid arguments.
func toldPushes(r impl.Region, seed int, many int) []impl.Push {
	var seeds []int
	for range 2 * many {
		seed = toldSeed(seed)
		seeds = append(seeds, seed>>16)
	}
	var list []impl.Push
	for two := range slices.Chunk(seeds, 2) {
		list = append(list, impl.Push{Corner: two[0] % cornersOf(r), Up: two[1]%2 == 0})
	}
	return list
}

func TestP101SeedsTellPushes(t *testing.T) {
	seeds := someSeeds()
	for i, s := range slopes() {
		for j, seed := range []int{0, lastSeed, seeds[i%len(seeds)], seeds[(i+1)%len(seeds)]} {
			for _, many := range []int{0, 1, 2 + (i+j)%125, impl.MaxPushes - 1, impl.MaxPushes} {
				list := impl.PushesBy(s.r, seed, many)
				if len(list) != many || !impl.PushesValid(s.r, list) || !slices.Equal(list, toldPushes(s.r, seed, many)) {
					t.Fatal(impl.RegionText(s.r), seed, many, list)
				}
				if more := impl.PushesBy(s.r, seed, min(many+1, impl.MaxPushes)); !slices.Equal(more[:many], list) {
					t.Fatal("of more", impl.RegionText(s.r), seed, many, list, more)
				}
			}
		}
	}
}

func TestP101OtherArgumentsTellNoPushes(t *testing.T) {
	r := filled(3, 2, 6)
	for _, seed := range wrongSeeds() {
		for _, many := range []int{0, 1, 5, impl.MaxPushes} {
			if list := impl.PushesBy(r, seed, many); len(list) != 0 {
				t.Error(seed, many, list)
			}
		}
	}
	for _, seed := range []int{0, 1, lastSeed} {
		for _, many := range []int{-1, -2, -128, math.MinInt, impl.MaxPushes + 1, impl.MaxPushes + 2, 1 << 20, math.MaxInt} {
			if list := impl.PushesBy(r, seed, many); len(list) != 0 {
				t.Error(seed, many, list)
			}
		}
	}
	for _, r := range notSimple(t) {
		for _, many := range []int{0, 1, 5, impl.MaxPushes} {
			if list := impl.PushesBy(r, 1, many); len(list) != 0 {
				t.Error(r, many, list)
			}
		}
	}
}

// TestP101PushesOfTexts has the seeds from 1 on, which divided by 65536 are 16838, 5758, 10113, 17515, 31051, 5627, 23010, 7419, 16212 and 4086.
func TestP101PushesOfTexts(t *testing.T) {
	for _, c := range []struct {
		text string
		seed int
		many int
		want string
	}{
		{"###/###", 1, 0, ""},
		{"###/###", 1, 1, "2+"},
		{"###/###", 1, 5, "2+ 9- 7- 6- 0+"},
		{"##/##", 1, 5, "8+ 6- 1- 6- 3+"},
		{"#", 1, 5, "2+ 1- 3- 2- 0+"},
		{"###/.#.", 1, 3, "2+ 9- 7-"},
		{"######/######/######/######", 1, 5, "3+ 33- 6- 15- 7+"},
		{"#./.#", 1, 5, ""},
		{".", 1, 5, ""},
	} {
		list := impl.PushesBy(region(t, c.text), c.seed, c.many)
		if !slices.Equal(list, pushesOf(c.want)) {
			t.Error(c.text, c.seed, c.many, list)
		}
	}
}
