package tests

import (
	"maps"
	"slices"
	"strings"
	"testing"

	"loop.example/dominotilings/impl"
)

// moved returns the dominoes of a list with both ends moved to other places.
func moved(f field, to func(p place) place) map[domino]bool {
	all := map[domino]bool{}
	for d := range dominoesOf(f.r, f.laid) {
		p, q := to(d[0]), to(d[1])
		if q.x < p.x || q.y < p.y {
			p, q = q, p
		}
		all[domino{p, q}] = true
	}
	return all
}

func TestP69DominoesTurnWithTheirCells(t *testing.T) {
	for _, f := range laidFields() {
		turned := field{impl.RegionTurn(f.r), impl.TilingTurn(f.r, f.laid)}
		want := moved(f, func(p place) place { return place{f.r.Tall - 1 - p.y, p.x} })
		if !isRight(turned.r, turned.laid) || !impl.LaidOk(turned.r, turned.laid) || !maps.Equal(dominoesOf(turned.r, turned.laid), want) {
			t.Fatal(f, turned)
		}
		whole := f
		for range 4 {
			whole = field{impl.RegionTurn(whole.r), impl.TilingTurn(whole.r, whole.laid)}
		}
		if !sameRegion(whole.r, f.r) || !slices.Equal(whole.laid, f.laid) {
			t.Fatal(f, whole)
		}
	}
	for _, f := range wrongFields() {
		if turned := impl.TilingTurn(f.r, f.laid); len(turned) != 0 {
			t.Error(f, turned)
		}
	}
}

func TestP70DominoesAreMirroredWithTheirCells(t *testing.T) {
	for _, f := range laidFields() {
		flipped := field{impl.RegionFlip(f.r), impl.TilingFlip(f.r, f.laid)}
		want := moved(f, func(p place) place { return place{f.r.Wide - 1 - p.x, p.y} })
		if !isRight(flipped.r, flipped.laid) || !impl.LaidOk(flipped.r, flipped.laid) || !maps.Equal(dominoesOf(flipped.r, flipped.laid), want) {
			t.Fatal(f, flipped)
		}
		if !slices.Equal(impl.TilingFlip(flipped.r, flipped.laid), f.laid) || impl.FlatMany(flipped.r, flipped.laid) != impl.FlatMany(f.r, f.laid) {
			t.Fatal(f, flipped)
		}
	}
	for _, f := range wrongFields() {
		if flipped := impl.TilingFlip(f.r, f.laid); len(flipped) != 0 {
			t.Error(f, flipped)
		}
	}
}

func TestP69P70TurnsOfTexts(t *testing.T) {
	for _, c := range []struct {
		text    string
		turned  string
		flipped string
	}{
		{".", ".", "."},
		{"#", "#", "#"},
		{"ew", "s/n", "ew"},
		{"s/n", "ew", "s/n"},
		{"ew#", "#/s/n", "#ew"},
		{"#./s./n.", ".../#ew", ".#/.s/.n"},
		{"sew/new", "ss/nn/ew", "ews/ewn"},
	} {
		r, laid, ok := impl.ReadLaid(c.text)
		turned := impl.LaidText(impl.RegionTurn(r), impl.TilingTurn(r, laid))
		flipped := impl.LaidText(impl.RegionFlip(r), impl.TilingFlip(r, laid))
		if !ok || turned != c.turned || flipped != c.flipped {
			t.Errorf("%q: %q %q", c.text, turned, flipped)
		}
	}
}

func TestP71TextsOfDominoesAreRead(t *testing.T) {
	for _, f := range append(laidFields(), tiledFields()...) {
		text := impl.LaidText(f.r, f.laid)
		r, laid, ok := impl.ReadLaid(text)
		if !ok || !sameRegion(r, f.r) || !slices.Equal(laid, f.laid) || len(text) != (f.r.Wide+1)*f.r.Tall-1 {
			t.Fatal(f, text)
		}
		for y, row := range strings.Split(text, "/") {
			for x := range f.r.Wide {
				if row[x] != letterAt(f, place{x, f.r.Tall - 1 - y}) {
					t.Fatal(f, text)
				}
			}
		}
	}
	for _, f := range wrongFields() {
		if text := impl.LaidText(f.r, f.laid); text != "" {
			t.Error(f, text)
		}
	}
}

func letterAt(f field, p place) byte {
	if !within(f.r, p.x, p.y) {
		return '.'
	}
	switch f.laid[indexOf(f.r, p)] {
	case impl.ToEast:
		return 'e'
	case impl.ToNorth:
		return 'n'
	case impl.ToWest:
		return 'w'
	case impl.ToSouth:
		return 's'
	}
	return '#'
}

// checkReadLaid reports whether the text was read.
func checkReadLaid(t *testing.T, text string) bool {
	t.Helper()
	r, laid, ok := impl.ReadLaid(text)
	if !ok && (!nothing(r) || len(laid) != 0) || ok && (!impl.LaidOk(r, laid) || impl.LaidText(r, laid) != text) {
		t.Fatalf("%q: %v %v %v", text, r, laid, ok)
	}
	for _, longer := range []string{text + "/", "/" + text, text + "\n", text + " ", " " + text, text + "\x00"} {
		if r, laid, again := impl.ReadLaid(longer); ok && (again || !nothing(r) || len(laid) != 0) {
			t.Fatalf("%q: %v %v", longer, r, laid)
		}
	}
	return ok
}

func TestP72ReadTextsOfDominoesAreCanonical(t *testing.T) {
	read := 0
	for _, text := range shortTexts("#.enws/x", 6) {
		if checkReadLaid(t, text) {
			read++
		}
	}
	// A text of 6 bytes has a letter for each cell, and a slash fewer than rows: so these are all lists for the fields that fit in.
	want := 0
	for _, r := range smallRegions() {
		if (r.Wide+1)*r.Tall-1 <= 6 {
			want += len(allLaid(r))
		}
	}
	if read != want {
		t.Error(read, "texts are read, not", want)
	}
	for _, f := range laidFields() {
		if !checkReadLaid(t, impl.LaidText(f.r, f.laid)) {
			t.Fatal(f)
		}
	}
}

func TestP72OtherTextsOfDominoesAreRefused(t *testing.T) {
	row := strings.Repeat("ew", 3)
	for _, text := range []string{
		"", "/", "//", "ew/", "/ew", "ew//ew", "ew/e", "e/ew", "ew/ew/",
		"e", "n", "w", "s", "we", "ee", "ww", "n/s", "s/s", "n/n", "e#", "#w", "e.", ".w", "s/#", "#/n", "s/.", "./n", "en", "ns", "ws",
		"ew./#sn/en#", "e/w", "sn", "#e/w#", "##e/w##", "ewe/w##",
		"EW", "N", "0", "1", "13", "ow", "e w", "ew\n", "\new", "ew\x00", "\x00", "\xff", "é", "ew\r/ew",
		"ewewew#", "#######", ".......", strings.Repeat("#/", 6) + "#", "s/n/s/n/s/n/#",
		strings.Repeat(row+"/", 4) + "#.....", strings.Repeat(row+"/", 4) + "ew....", strings.Repeat(row+"/", 5) + row, strings.Repeat("#####/", 4) + "#####",
		strings.Repeat("/", 1000), strings.Repeat("ew", 1000), strings.Repeat(row+"/", 1000),
	} {
		r, laid, ok := impl.ReadLaid(text)
		if ok || !nothing(r) || len(laid) != 0 {
			t.Errorf("%q: %v %v", text, r, laid)
		}
	}
	for _, text := range []string{strings.Repeat(row+"/", 3) + row, strings.Repeat(row+"/", 3) + row + "/......", strings.Repeat("ewew#/", 4) + "####."} {
		if r, laid, ok := impl.ReadLaid(text); !ok || impl.CellsMany(r) != impl.MaxCells || len(laid) != len(r.Cells) {
			t.Errorf("%q: %v %v %v", text, r, laid, ok)
		}
	}
}

func TestDirections(t *testing.T) {
	if impl.ToNone != 0 || impl.ToEast != 1 || impl.ToNorth != 2 || impl.ToWest != 3 || impl.ToSouth != 4 {
		t.Error(impl.ToNone, impl.ToEast, impl.ToNorth, impl.ToWest, impl.ToSouth)
	}
}
