package tests

import (
	"testing"

	"loop.example/dominotilings/impl"
)

func TestP83SimpleRegionsStaySimple(t *testing.T) {
	for _, r := range append(validRegions(), simpleRegions()...) {
		simple := impl.Simple(r)
		if simple != isSimple(r) {
			t.Fatal(impl.RegionText(r), simple)
		}
		if impl.Simple(impl.RegionTurn(r)) != simple || impl.Simple(impl.RegionFlip(r)) != simple {
			t.Fatal("turned or mirrored", impl.RegionText(r), simple)
		}
		if simple && (impl.PartsMany(r) != 1 || impl.HolesMany(r) != 0) {
			t.Fatal(impl.RegionText(r))
		}
	}
}

func TestP83SimpleRegionsOfTexts(t *testing.T) {
	for text, want := range map[string]bool{
		".":                           false,
		"....../......":               false,
		"#":                           true,
		"#.":                          true,
		"./#":                         true,
		"######":                      true,
		"#/#/#/#/#/#":                 true,
		"#.#":                         false,
		"#./.#":                       false,
		"##/.#":                       true,
		"###/#.#/###":                 false,
		"###/#.#/#.#":                 true,
		"###/#.#/##.":                 false,
		"##./#.#/###":                 false,
		".##/#.#/###":                 false,
		"###/#.#/.##":                 false,
		"###/#../###":                 true,
		"####/#..#/####":              false,
		"####/#..#/###.":              false,
		"####/#..#/##.#":              true,
		"##../#.##/###.":              false,
		"####./#..#./.####":           false,
		"##.##/##.##":                 false,
		"######/######/######/######": true,
		"######/#....#/#.##.#/#.#..#/#.####/#.....": true,
		"######/#....#/#.##.#/#.#.../#.####/#.....": false,
		"######/#...../#.....":                      true,
		"######/.....#/######/#...../######":        true,
		"..##../.####./######/######/.####./..##..": true,
		"######/#....#/#....#/#....#/#....#/######": false,
		"######/#....#/#....#/#....#/#....#/#####.": false,
		"######/#....#/#....#/#....#/#....#/####.#": true,
	} {
		if simple := impl.Simple(region(t, text)); simple != want {
			t.Error(text, simple)
		}
	}
}

func TestP83OtherRegionsAreNotSimple(t *testing.T) {
	for _, r := range badRegions() {
		if impl.Simple(r) {
			t.Error(r)
		}
	}
	for _, r := range twistedRegions(t) {
		if impl.Simple(r) {
			t.Error(impl.RegionText(r))
		}
	}
}

func TestP84CornersSurroundCells(t *testing.T) {
	for _, r := range validRegions() {
		many := impl.CornerMany(r)
		corners := map[place]bool{}
		for cell := range r.Cells {
			p := placeOf(r, cell)
			for _, l := range linesAround(p) {
				corners[l.from], corners[l.to] = true, true
			}
		}
		if many != len(corners) || many <= len(r.Cells) || impl.CornerMany(impl.RegionTurn(r)) != many {
			t.Fatal(r, many, len(corners))
		}
	}
	for _, r := range badRegions() {
		if many := impl.CornerMany(r); many != -1 {
			t.Error(r, many)
		}
	}
}

func TestP84CornersOfFields(t *testing.T) {
	for text, want := range map[string]int{"#": 4, ".": 4, "##": 6, "#/#": 6, "#./..": 9, "......": 14, "###/###": 12, "######/######/######/######": 35, "....../....../....../....../....../......": 49} {
		if many := impl.CornerMany(region(t, text)); many != want {
			t.Error(text, many)
		}
	}
}
