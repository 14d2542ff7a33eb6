package tests

import (
	"slices"
	"testing"

	"loop.example/dominotilings/impl"
)

// checkOptions holds OptionsOf against what is told, for all cells, and reports how many cells have so many options.
func checkOptions(t *testing.T, p puzzle) [5]int {
	t.Helper()
	var many [5]int
	free := bareCells(p)
	for cell := range p.r.Cells {
		ways := impl.OptionsOf(p.r, p.digits, p.laid, cell)
		if !slices.Contains(free, cell) {
			if len(ways) != 0 {
				t.Fatal("no free cell", p, cell, ways)
			}
			continue
		}
		if !slices.Equal(ways, toldOptions(p, cell)) {
			t.Fatal(p, cell, ways)
		}
		for _, way := range ways {
			further, done := impl.LayOne(p.r, p.laid, cell, way)
			if !done || !impl.FairOk(p.r, p.digits, further) || impl.LaidMany(p.r, further) != impl.LaidMany(p.r, p.laid)+1 {
				t.Fatal(p, cell, way)
			}
		}
		many[len(ways)]++
	}
	return many
}

func TestP125OptionsKeepFair(t *testing.T) {
	var all [5]int
	eachFair(t, func(k task, p puzzle) {
		for i, many := range checkOptions(t, p) {
			all[i] += many
		}
	})
	if slices.Min(all[:]) < 20 {
		t.Error("too few cells with so many options", all)
	}
}

// TestP125FurtherDominoesLeaveFewerOptions lays the first and the last domino that can be laid.
func TestP125FurtherDominoesLeaveFewerOptions(t *testing.T) {
	fewer := 0
	eachFair(t, func(k task, p puzzle) {
		free := bareCells(p)
		free = slices.DeleteFunc(free, func(cell int) bool { return len(toldOptions(p, cell)) == 0 })
		if len(free) == 0 {
			return
		}
		for _, cell := range []int{free[0], free[len(free)-1]} {
			ways := impl.OptionsOf(p.r, p.digits, p.laid, cell)
			further := p.further(cell, ways[len(ways)-1])
			for other := range p.r.Cells {
				before := impl.OptionsOf(p.r, p.digits, p.laid, other)
				after := impl.OptionsOf(p.r, p.digits, further.laid, other)
				if slices.ContainsFunc(after, func(way int) bool { return !slices.Contains(before, way) }) {
					t.Fatal(p, further, other, before, after)
				}
				fewer += len(before) - len(after)
			}
		}
	})
	if fewer == 0 {
		t.Error("never fewer options")
	}
}

func TestP125OptionsThatAreKnown(t *testing.T) {
	for _, c := range []struct {
		text string
		laid string
		cell int
		ways []int
	}{
		{"011/012", "", 0, []int{impl.ToEast, impl.ToNorth}},
		{"011/012", "", 1, []int{impl.ToEast, impl.ToNorth, impl.ToWest}},
		{"011/012", "", 5, []int{impl.ToWest, impl.ToSouth}},
		{"011/012", "###/ew#", 0, nil},
		{"011/012", "###/ew#", 2, []int{impl.ToNorth}},
		{"011/012", "###/ew#", 3, nil},
		{"011/012", "###/ew#", 4, []int{impl.ToEast}},
		{"000/000/000", "", 4, []int{impl.ToEast, impl.ToNorth, impl.ToWest, impl.ToSouth}},
		{"010/102/050", "", 4, []int{impl.ToEast, impl.ToNorth, impl.ToWest, impl.ToSouth}},
		{"010/102/050", "ew#/###/###", 4, []int{impl.ToEast, impl.ToSouth}},
		{"000/000/00.", "###/###/ew.", 4, nil},
		{"6", "", 0, nil},
		{"6.6", "", 0, nil},
		{"6.6", "", 1, nil},
		{"66/..", "", 0, nil},
		{"66/..", "", 2, []int{impl.ToEast}},
	} {
		p := drawnPuzzle(c.text, c.laid)
		if ways := impl.OptionsOf(p.r, p.digits, p.laid, c.cell); !slices.Equal(ways, c.ways) {
			t.Error(c, ways)
		}
	}
}

func TestP125NoOptionsOfOtherArguments(t *testing.T) {
	for _, p := range append(wrongPuzzles(), unfairPuzzles(t)...) {
		for cell := -1; cell <= 36; cell++ {
			if ways := impl.OptionsOf(p.r, p.digits, p.laid, cell); len(ways) != 0 {
				t.Error(p, cell, ways)
			}
		}
	}
	for _, text := range []string{"01/23", ".", "0123/4560", "5"} {
		p := drawnPuzzle(text, "")
		for _, far := range append(farNumbers(), len(p.digits), len(p.digits)+1, -2) {
			if ways := impl.OptionsOf(p.r, p.digits, p.laid, far); len(ways) != 0 {
				t.Error(text, far, ways)
			}
		}
	}
}

func TestP126OneDominoIsForcedAtATime(t *testing.T) {
	done := map[bool]int{}
	eachFair(t, func(k task, p puzzle) {
		want, forced := toldForceOne(p)
		done[forced]++
		laid, ok := impl.ForceOne(p.r, p.digits, p.laid)
		if ok != forced || !slices.Equal(laid, want.laid) {
			t.Fatal(p, laid, ok)
		}
		more := 0
		if forced {
			more = 1
		}
		if !impl.FairOk(p.r, p.digits, laid) || impl.LaidMany(p.r, laid) != impl.LaidMany(p.r, p.laid)+more {
			t.Fatal(p, laid)
		}
		for _, solution := range k.those(p.laid) {
			if !hasAll(solution, laid) {
				t.Fatal("not in a solution", p, laid, solution)
			}
		}
	})
	if done[true] < 100 || done[false] < 100 {
		t.Error("all are forced, or none is", done)
	}
}

func TestP37WhatIsForcedIsInEverySolution(t *testing.T) {
	chains, tilings := 0, 0
	eachFair(t, func(k task, p puzzle) {
		laid := impl.ForceAll(p.r, p.digits, p.laid)
		those := k.those(p.laid)
		if !slices.Equal(laid, toldForceAll(p).laid) || !impl.FairOk(p.r, p.digits, laid) || !hasAll(laid, p.laid) {
			t.Fatal(p, laid)
		}
		for _, solution := range those {
			if !hasAll(solution, laid) {
				t.Fatal("not in a solution", p, laid, solution)
			}
		}
		if again, ok := impl.ForceOne(p.r, p.digits, laid); ok || !slices.Equal(again, laid) || firstBare(p.with(laid), 1) >= 0 {
			t.Fatal("more is forced", p, laid)
		}
		if impl.TilingOk(p.r, laid) {
			tilings++
			if len(those) != 1 || !slices.Equal(those[0], laid) {
				t.Fatal("not the only solution", p, laid)
			}
		}
		if impl.LaidMany(p.r, laid) > impl.LaidMany(p.r, p.laid)+2 {
			chains++
		}
	})
	if chains < 100 || tilings < 100 {
		t.Error("too few forced", chains, tilings)
	}
}

func TestP37P126ForcedThatAreKnown(t *testing.T) {
	for _, c := range []struct {
		text string
		laid string
		one  string
		all  string
	}{
		{"011/012", "", "###/###", "###/###"},
		{"011/012", "###/ew#", "##s/ewn", "##s/ewn"},
		{"011/012", "##s/##n", "##s/##n", "##s/##n"},
		{"011/012", "###/#ew", "s##/new", "sew/new"},
		{"012345", "", "ew####", "ewewew"},
		{"0110", "", "ew##", "ew##"},
		{"012", "", "ew#", "ew#"},
		{"6/5/4/3", "", "#/#/s/n", "s/n/s/n"},
		{"00/11", "", "##/##", "##/##"},
		{"00/11", "ew/##", "ew/ew", "ew/ew"},
		{"00/00", "", "##/##", "##/##"},
		{"00/00", "ew/##", "ew/##", "ew/##"},
		{"123/.4.", "", "#s#/.n.", "#s#/.n."},
		{"0", "", "#", "#"},
		{".", ".", ".", "."},
		{"01.34", "", "ew.##", "ew.ew"},
		{"23", "ew", "ew", "ew"},
	} {
		p := drawnPuzzle(c.text, c.laid)
		one, ok := impl.ForceOne(p.r, p.digits, p.laid)
		all := impl.ForceAll(p.r, p.digits, p.laid)
		if impl.LaidText(p.r, one) != c.one || ok != (impl.LaidText(p.r, p.laid) != c.one) || impl.LaidText(p.r, all) != c.all {
			t.Error(c, one, ok, all)
		}
	}
}

func TestP37P126NothingIsForcedInOtherLists(t *testing.T) {
	for _, p := range append(wrongPuzzles(), unfairPuzzles(t)...) {
		if laid, ok := impl.ForceOne(p.r, p.digits, p.laid); ok || len(laid) != 0 {
			t.Error(p, laid)
		}
		if laid := impl.ForceAll(p.r, p.digits, p.laid); len(laid) != 0 {
			t.Error(p, laid)
		}
	}
}

func TestP128HintsLeadToASolution(t *testing.T) {
	single, several, none, full := 0, 0, 0, 0
	eachFair(t, func(k task, p puzzle) {
		cell, way := impl.HintOf(p.r, p.digits, p.laid)
		those, free := k.those(p.laid), bareCells(p)
		if len(those) == 0 || len(free) == 0 {
			if cell != -1 || way != impl.ToNone {
				t.Fatal("there is no hint", p, cell, way)
			}
			if len(free) == 0 {
				full++
			} else {
				none++
			}
			return
		}
		want := firstBare(p, 1)
		if want >= 0 {
			single++
		} else {
			want = free[0]
			several++
		}
		if cell != want || way != those[0][want] {
			t.Fatal(p, cell, way)
		}
		further, done := impl.LayOne(p.r, p.laid, cell, way)
		if _, ok := impl.SolveFirst(p.r, p.digits, further); !done || !ok {
			t.Fatal("no solution", p, cell, way)
		}
	})
	if min(single, several, none, full) < 100 {
		t.Error("too few of a kind", single, several, none, full)
	}
}

func TestP128HintsThatAreKnown(t *testing.T) {
	for _, c := range []struct {
		text string
		laid string
		cell int
		way  int
	}{
		{"011/012", "", 0, impl.ToNorth},
		{"011/012", "##s/##n", 0, impl.ToNorth},
		{"011/012", "###/#ew", 0, impl.ToNorth},
		{"011/012", "###/ew#", -1, impl.ToNone},
		{"011/012", "sew/new", -1, impl.ToNone},
		{"01/23", "", 0, impl.ToEast},
		{"123/.4.", "", -1, impl.ToNone},
		{"123/.45", "", -1, impl.ToNone},
		{"1234/..56", "", 4, impl.ToEast},
		{"12../3456", "", 3, impl.ToWest},
		{"0110", "", -1, impl.ToNone},
		{".", ".", -1, impl.ToNone},
		{"0", "", -1, impl.ToNone},
		{"6/5", "", 0, impl.ToNorth},
	} {
		p := drawnPuzzle(c.text, c.laid)
		if cell, way := impl.HintOf(p.r, p.digits, p.laid); cell != c.cell || way != c.way {
			t.Error(c, cell, way)
		}
	}
}

func TestP128NoHintsForOtherLists(t *testing.T) {
	for _, p := range append(wrongPuzzles(), unfairPuzzles(t)...) {
		if cell, way := impl.HintOf(p.r, p.digits, p.laid); cell != -1 || way != impl.ToNone {
			t.Error(p, cell, way)
		}
	}
}
