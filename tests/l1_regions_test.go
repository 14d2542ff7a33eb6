package tests

import (
	"strings"
	"testing"

	"loop.example/dominotilings/impl"
)

// within tells the entry of a cell in a column and a row without the program's help.
func within(r impl.Region, x int, y int) bool {
	return x >= 0 && x < r.Wide && y >= 0 && y < r.Tall && r.Cells[y*r.Wide+x]
}

func countCells(r impl.Region) int {
	many := 0
	for _, has := range r.Cells {
		if has {
			many++
		}
	}
	return many
}

func countPairs(r impl.Region) int {
	many := 0
	for y := range r.Tall {
		for x := range r.Wide {
			if within(r, x, y) && within(r, x+1, y) {
				many++
			}
			if within(r, x, y) && within(r, x, y+1) {
				many++
			}
		}
	}
	return many
}

func countSquares(r impl.Region) int {
	many := 0
	for y := range r.Tall {
		for x := range r.Wide {
			if within(r, x, y) && within(r, x+1, y) && within(r, x, y+1) && within(r, x+1, y+1) {
				many++
			}
		}
	}
	return many
}

// leastMarks lets every cell take the least index around it until nothing changes: slow, but another way than the program's.
func leastMarks(r impl.Region, corners bool) []int {
	marks := make([]int, len(r.Cells))
	for i, has := range r.Cells {
		marks[i] = -1
		if has {
			marks[i] = i
		}
	}
	for changed := true; changed; {
		changed = false
		for i := range marks {
			for j := range marks {
				dx, dy := i%r.Wide-j%r.Wide, i/r.Wide-j/r.Wide
				beside := dx*dx+dy*dy == 1 || corners && dx*dx+dy*dy == 2
				if beside && r.Cells[i] && r.Cells[j] && marks[j] < marks[i] {
					marks[i], changed = marks[j], true
				}
			}
		}
	}
	return marks
}

func countMarks(marks []int) int {
	seen := map[int]bool{}
	for _, mark := range marks {
		if mark >= 0 {
			seen[mark] = true
		}
	}
	return len(seen)
}

// countHoles counts by the least indices, in a field with two rows and columns more on each side.
func countHoles(r impl.Region) int {
	big := impl.Region{Wide: r.Wide + 4, Tall: r.Tall + 4}
	for y := range big.Tall {
		for x := range big.Wide {
			big.Cells = append(big.Cells, !within(r, x-2, y-2))
		}
	}
	return countMarks(leastMarks(big, true)) - 1
}

func TestP1PartsHolesAndCorners(t *testing.T) {
	for _, r := range validRegions() {
		parts, holes := impl.PartsMany(r), impl.HolesMany(r)
		if parts-holes != countCells(r)-countPairs(r)+countSquares(r) {
			t.Fatalf("%q: %d parts, %d holes", impl.RegionText(r), parts, holes)
		}
	}
}

func TestP1HolesOfRegions(t *testing.T) {
	for _, c := range []struct {
		text  string
		parts int
		holes int
	}{
		{".", 0, 0},
		{"......" + strings.Repeat("/......", 5), 0, 0},
		{"#", 1, 0},
		{"##/##", 1, 0},
		{"#.#", 2, 0},
		{"#./.#", 2, 0},
		{"###/#.#/###", 1, 1},
		{"###/#.#/##.", 1, 0},
		{".##/#.#/###", 1, 0},
		{"###/#.#/#.#", 1, 0},
		{"###/..#/###", 1, 0},
		{".#./#.#/.#.", 4, 0},
		{"#####/#.#.#/#####", 1, 2},
		{"####/##.#/#.##/####", 1, 1},
		{"####/#..#/####", 1, 1},
		{".###/##.#/####", 1, 1},
		{".###/#.##/####", 1, 0},
		{"#####/#...#/#.#.#/#...#/#####", 2, 1},
		{"######/#....#/#....#/#....#/#....#/######", 1, 1},
		{"######/#....#/#.##.#/#.##.#/#....#/######", 2, 1},
		{"#####./#.#.#./#####./#.#.#./#####.", 1, 4},
		{".####./##.#.#/.####.", 2, 1},
		{".###../#.#.../####../..####/..#..#/..####", 1, 1},
	} {
		r := region(t, c.text)
		if impl.PartsMany(r) != c.parts || impl.HolesMany(r) != c.holes {
			t.Errorf("%q: %d parts, %d holes", c.text, impl.PartsMany(r), impl.HolesMany(r))
		}
	}
	for _, r := range largeRegions() {
		if impl.HolesMany(r) != countHoles(r) {
			t.Fatalf("%q: %d holes", impl.RegionText(r), impl.HolesMany(r))
		}
	}
	for _, r := range badRegions() {
		if impl.HolesMany(r) != -1 {
			t.Error(r, impl.HolesMany(r))
		}
	}
}

func TestP45RegionsMayBeEmpty(t *testing.T) {
	for _, r := range validRegions() {
		bare := impl.Region{Wide: r.Wide, Tall: r.Tall, Cells: make([]bool, len(r.Cells))}
		fewer := impl.Region{Wide: r.Wide, Tall: r.Tall, Cells: r.Cells[:len(r.Cells)-1]}
		more := impl.Region{Wide: r.Wide, Tall: r.Tall, Cells: append(r.Cells[:len(r.Cells):len(r.Cells)], false)}
		if !impl.RegionValid(r) || !impl.RegionValid(bare) || impl.RegionValid(fewer) || impl.RegionValid(more) {
			t.Fatal(r)
		}
	}
	for _, r := range badRegions() {
		if impl.RegionValid(r) {
			t.Error(r)
		}
	}
}

func TestP45MostCells(t *testing.T) {
	for _, side := range []int{5, 6} {
		if !impl.RegionValid(filled(side, 5, 24)) || !impl.RegionValid(filled(6, side, 24)) {
			t.Error("24 cells", side)
		}
		if impl.RegionValid(filled(side, 5, 25)) || impl.RegionValid(filled(6, side, 25)) {
			t.Error("25 cells", side)
		}
	}
	if !impl.RegionValid(impl.Region{Wide: 6, Tall: 6, Cells: make([]bool, 36)}) {
		t.Error("the greatest field without cells")
	}
}

func TestP46BoxesAreFull(t *testing.T) {
	for wide := -2; wide <= 9; wide++ {
		for tall := -2; tall <= 9; tall++ {
			box := impl.RegionBox(wide, tall)
			if wide < 1 || wide > 6 || tall < 1 || tall > 6 || wide*tall > 24 {
				if !nothing(box) {
					t.Error(wide, tall, box)
				}
				continue
			}
			if !sameRegion(box, filled(wide, tall, wide*tall)) || impl.Border(box) != 2*(wide+tall) {
				t.Error(wide, tall, box)
			}
		}
	}
	for _, far := range append(farNumbers(), 0, 7) {
		if !nothing(impl.RegionBox(far, 1)) || !nothing(impl.RegionBox(1, far)) || !nothing(impl.RegionBox(far, far)) {
			t.Error(far)
		}
	}
}

func TestP47CellsByPlaces(t *testing.T) {
	for _, r := range validRegions() {
		for y := -2; y <= 7; y++ {
			for x := -2; x <= 7; x++ {
				if impl.RegionAt(r, x, y) != within(r, x, y) {
					t.Fatal(r, x, y)
				}
			}
		}
	}
	full := filled(2, 2, 4)
	for _, far := range append(farNumbers(), 2) {
		if impl.RegionAt(full, far, 0) || impl.RegionAt(full, 0, far) || impl.RegionAt(full, far, far) {
			t.Error(far)
		}
	}
	for _, r := range badRegions() {
		for y := -1; y <= 6; y++ {
			for x := -1; x <= 6; x++ {
				if impl.RegionAt(r, x, y) {
					t.Error(r, x, y)
				}
			}
		}
	}
}

func TestP48OneCellChanges(t *testing.T) {
	for _, r := range validRegions() {
		for cell, had := range r.Cells {
			for _, has := range []bool{false, true} {
				checkSet(t, r, cell, had, has)
			}
		}
		for _, cell := range append(farNumbers(), len(r.Cells)) {
			if set, ok := impl.RegionSet(r, cell, false); ok || !nothing(set) {
				t.Fatal(r, cell, set)
			}
		}
	}
	for _, r := range badRegions() {
		for cell := range 7 {
			off, okOff := impl.RegionSet(r, cell, false)
			on, okOn := impl.RegionSet(r, cell, true)
			if okOff || okOn || !nothing(off) || !nothing(on) {
				t.Error(r, cell)
			}
		}
	}
}

func checkSet(t *testing.T, r impl.Region, cell int, had bool, has bool) {
	t.Helper()
	set, ok := impl.RegionSet(r, cell, has)
	many := countCells(r)
	if has && !had && many == impl.MaxCells {
		if ok || !nothing(set) {
			t.Fatal("a cell too many", r, cell, set)
		}
		return
	}
	if has && !had {
		many++
	}
	if had && !has {
		many--
	}
	if !ok || !impl.RegionValid(set) || set.Cells[cell] != has || impl.CellsMany(set) != many {
		t.Fatal(r, cell, has, set)
	}
	back, ok := impl.RegionSet(set, cell, had)
	if !ok || !sameRegion(back, r) {
		t.Fatal(r, cell, has, back)
	}
}

func TestP49PartsHaveAllCells(t *testing.T) {
	for _, r := range validRegions() {
		inParts := 0
		for _, part := range impl.PartsOf(r) {
			if part >= 0 {
				inParts++
			}
		}
		many := impl.CellsMany(r)
		if many < 0 || many > impl.MaxCells || many != inParts || many != countCells(r) {
			t.Fatal(r, many)
		}
	}
	for _, r := range badRegions() {
		if impl.CellsMany(r) != -1 {
			t.Error(r, impl.CellsMany(r))
		}
	}
}

func countDark(r impl.Region) int {
	many := 0
	for y := range r.Tall {
		for x := range r.Wide {
			if within(r, x, y) && x%2 == y%2 {
				many++
			}
		}
	}
	return many
}

func TestP50MirroredDark(t *testing.T) {
	for _, r := range validRegions() {
		dark, other := impl.DarkMany(r), impl.DarkMany(impl.RegionFlip(r))
		if dark != countDark(r) {
			t.Fatal(r, dark)
		}
		if r.Wide%2 == 0 && other != countCells(r)-dark || r.Wide%2 == 1 && other != dark {
			t.Fatal(r, dark, other)
		}
	}
	for _, r := range badRegions() {
		if impl.DarkMany(r) != -1 {
			t.Error(r, impl.DarkMany(r))
		}
	}
	if impl.DarkMany(region(t, "#.")) != 1 || impl.DarkMany(region(t, ".#")) != 0 || impl.DarkMany(region(t, "...")) != 0 {
		t.Error("the cell in the south-west is dark")
	}
}

func TestP51BalanceHasNoDirection(t *testing.T) {
	for _, r := range validRegions() {
		fair := impl.Balanced(r)
		if fair != (2*countDark(r) == countCells(r)) || fair && countCells(r)%2 != 0 {
			t.Fatal(r, fair)
		}
		if impl.Balanced(impl.RegionTurn(r)) != fair || impl.Balanced(impl.RegionFlip(r)) != fair {
			t.Fatal(r, fair)
		}
	}
	for _, r := range badRegions() {
		if impl.Balanced(r) {
			t.Error(r)
		}
	}
	if !impl.Balanced(region(t, "..")) || impl.Balanced(region(t, "#.#")) || !impl.Balanced(region(t, "#..#")) {
		t.Error("bare and ordinary regions")
	}
}

func TestP52FourRightAngles(t *testing.T) {
	for _, r := range validRegions() {
		turned := impl.RegionTurn(r)
		if turned.Wide != r.Tall || turned.Tall != r.Wide || !impl.RegionValid(turned) {
			t.Fatal(r, turned)
		}
		for y := range r.Tall {
			for x := range r.Wide {
				if within(turned, r.Tall-1-y, x) != within(r, x, y) {
					t.Fatal(r, turned)
				}
			}
		}
		if !sameRegion(impl.RegionTurn(impl.RegionTurn(impl.RegionTurn(turned))), r) {
			t.Fatal(r)
		}
		if impl.CellsMany(turned) != impl.CellsMany(r) || impl.PartsMany(turned) != impl.PartsMany(r) || impl.HolesMany(turned) != impl.HolesMany(r) {
			t.Fatal(r, turned)
		}
	}
	for _, r := range badRegions() {
		if !nothing(impl.RegionTurn(r)) {
			t.Error(r, impl.RegionTurn(r))
		}
	}
}

func TestP53MirrorsOfMirrors(t *testing.T) {
	turnFlip := func(r impl.Region) impl.Region {
		return impl.RegionFlip(impl.RegionTurn(r))
	}
	for _, r := range validRegions() {
		flipped := impl.RegionFlip(r)
		for y := range r.Tall {
			for x := range r.Wide {
				if within(flipped, r.Wide-1-x, y) != within(r, x, y) {
					t.Fatal(r, flipped)
				}
			}
		}
		if !sameRegion(impl.RegionFlip(flipped), r) || !sameRegion(turnFlip(turnFlip(r)), r) {
			t.Fatal(r, flipped)
		}
	}
	for _, r := range badRegions() {
		if !nothing(impl.RegionFlip(r)) {
			t.Error(r, impl.RegionFlip(r))
		}
	}
}

// regionPairs returns pairs of valid regions with the same field.
func regionPairs() [][2]impl.Region {
	var list [][2]impl.Region
	for a := range 64 {
		for b := range 64 {
			list = append(list, [2]impl.Region{masked(2, 3, a), masked(2, 3, b)})
		}
	}
	large := largeRegions()
	for i, r := range large {
		for _, other := range large[max(0, i-20):i] {
			if other.Wide == r.Wide && other.Tall == r.Tall {
				list = append(list, [2]impl.Region{r, other})
			}
		}
	}
	return list
}

func TestP54JoinHasAllCells(t *testing.T) {
	refused := 0
	for _, p := range regionPairs() {
		join, ok := impl.RegionJoin(p[0], p[1])
		meet, _ := impl.RegionMeet(p[0], p[1])
		all := filled(p[0].Wide, p[0].Tall, 0)
		for i := range all.Cells {
			all.Cells[i] = p[0].Cells[i] || p[1].Cells[i]
		}
		if countCells(all) > impl.MaxCells {
			refused++
			if ok || !nothing(join) {
				t.Fatal("too many cells", p, join)
			}
			continue
		}
		if !ok || !sameRegion(join, all) || impl.CellsMany(join)+impl.CellsMany(meet) != countCells(p[0])+countCells(p[1]) {
			t.Fatal(p, join)
		}
		itself, ok := impl.RegionJoin(p[0], meet)
		if !ok || !sameRegion(itself, p[0]) {
			t.Fatal(p, itself)
		}
	}
	if refused == 0 {
		t.Error("no pair has too many cells together")
	}
}

func TestP55MeetBelongsToBoth(t *testing.T) {
	for _, p := range regionPairs() {
		meet, ok := impl.RegionMeet(p[0], p[1])
		back, okBack := impl.RegionMeet(p[1], p[0])
		itself, okItself := impl.RegionMeet(p[0], p[0])
		if !ok || !okBack || !okItself || !sameRegion(meet, back) || !sameRegion(itself, p[0]) {
			t.Fatal(p, meet, back, itself)
		}
		for i, has := range meet.Cells {
			if has != (p[0].Cells[i] && p[1].Cells[i]) {
				t.Fatal(p, meet)
			}
		}
		if meet.Wide != p[0].Wide || meet.Tall != p[0].Tall {
			t.Fatal(p, meet)
		}
	}
}

func TestP54P55InvalidPairs(t *testing.T) {
	refuse := func(a impl.Region, b impl.Region) {
		t.Helper()
		join, ok := impl.RegionJoin(a, b)
		meet, okMeet := impl.RegionMeet(a, b)
		if ok || okMeet || !nothing(join) || !nothing(meet) {
			t.Error(a, b, join, meet)
		}
	}
	good := filled(2, 2, 3)
	for _, r := range badRegions() {
		same := impl.Region{Wide: 5, Tall: 5, Cells: make([]bool, 25)}
		refuse(r, good)
		refuse(good, r)
		refuse(r, same)
		refuse(same, r)
		refuse(r, r)
	}
	for _, other := range []impl.Region{filled(1, 2, 1), filled(2, 1, 1), filled(4, 1, 1), filled(1, 4, 1), filled(2, 3, 1), filled(3, 2, 1)} {
		refuse(good, other)
		refuse(other, good)
	}
	refuse(filled(2, 3, 6), filled(3, 2, 6))
}

func TestP56NeighboursHaveTheSamePart(t *testing.T) {
	for _, r := range smallRegions() {
		checkParts(t, r, impl.PartsOf(r))
	}
	for _, r := range largeRegions() {
		parts := impl.PartsOf(r)
		checkParts(t, r, parts)
		for i, least := range leastMarks(r, false) {
			if parts[i] != least {
				t.Fatal(r, parts)
			}
		}
	}
	for _, r := range badRegions() {
		if len(impl.PartsOf(r)) != 0 {
			t.Error(r, impl.PartsOf(r))
		}
	}
}

func checkParts(t *testing.T, r impl.Region, parts []int) {
	t.Helper()
	if len(parts) != len(r.Cells) {
		t.Fatal(r, parts)
	}
	for i, part := range parts {
		x, y := i%r.Wide, i/r.Wide
		if !r.Cells[i] {
			if part != -1 {
				t.Fatal(r, parts)
			}
			continue
		}
		if part < 0 || part > i || !r.Cells[part] || parts[part] != part {
			t.Fatal(r, parts)
		}
		if within(r, x+1, y) && parts[i+1] != part || within(r, x, y+1) && parts[i+r.Wide] != part {
			t.Fatal(r, parts)
		}
	}
}

func TestP56PartsBySides(t *testing.T) {
	for _, c := range []struct {
		text  string
		parts []int
	}{
		{".", []int{-1}},
		{"#", []int{0}},
		{"#.#", []int{0, -1, 2}},
		{"#./.#", []int{-1, 1, 2, -1}},
		{"###/..#/###", []int{0, 0, 0, -1, -1, 0, 0, 0, 0}},
		{"###/#.#/#.#", []int{0, -1, 0, 0, -1, 0, 0, 0, 0}},
		{"..#/##.", []int{0, 0, -1, -1, -1, 5}},
		{"#.", []int{0, -1}},
		{".##/##./..#", []int{-1, -1, 2, 3, 3, -1, -1, 3, 3}},
	} {
		parts := impl.PartsOf(region(t, c.text))
		if len(parts) != len(c.parts) {
			t.Fatal(c.text, parts)
		}
		for i, part := range parts {
			if part != c.parts[i] {
				t.Error(c.text, parts)
			}
		}
	}
}

func TestP57ACellJoinsAtMostFourParts(t *testing.T) {
	for _, r := range smallRegions() {
		checkJoins(t, r)
	}
	for _, r := range largeRegions() {
		if impl.PartsMany(r) != countMarks(leastMarks(r, false)) {
			t.Fatal(r, impl.PartsMany(r))
		}
		checkJoins(t, r)
	}
	cross := region(t, ".#./#.#/.#.")
	joined, _ := impl.RegionSet(cross, 4, true)
	if impl.PartsMany(cross) != 4 || impl.PartsMany(joined) != 1 {
		t.Error("four parts become one")
	}
	if impl.PartsMany(region(t, "#.#.#./.#.#.#/#.#.#./.#.#.#/#.#.#./.#.#.#")) != 18 || impl.PartsMany(region(t, ".../...")) != 0 {
		t.Error("many parts and none")
	}
	for _, r := range badRegions() {
		if impl.PartsMany(r) != -1 {
			t.Error(r, impl.PartsMany(r))
		}
	}
}

func checkJoins(t *testing.T, r impl.Region) {
	t.Helper()
	parts := impl.PartsMany(r)
	for cell, has := range r.Cells {
		further, ok := impl.RegionSet(r, cell, true)
		if has || !ok {
			continue
		}
		now := impl.PartsMany(further)
		if now > parts+1 || now < parts-3 {
			t.Fatal(r, cell, parts, now)
		}
	}
}

func TestP58SidesAreSharedByTwo(t *testing.T) {
	for _, r := range validRegions() {
		if impl.Border(r)+2*countPairs(r) != 4*countCells(r) {
			t.Fatal(r, impl.Border(r))
		}
	}
	for _, r := range badRegions() {
		if impl.Border(r) != -1 {
			t.Error(r, impl.Border(r))
		}
	}
	for text, border := range map[string]int{"...": 0, "#": 4, "##": 6, "##/##": 8, "#./.#": 8, "###/#.#/###": 16, "#....#": 8} {
		if impl.Border(region(t, text)) != border {
			t.Error(text, impl.Border(region(t, text)))
		}
	}
}

func TestP59TextsAreRead(t *testing.T) {
	for _, r := range validRegions() {
		text := impl.RegionText(r)
		back, ok := impl.ReadRegion(text)
		if !ok || !sameRegion(back, r) || len(text) != (r.Wide+1)*r.Tall-1 {
			t.Fatal(r, text, back)
		}
		for y, row := range strings.Split(text, "/") {
			for x := range r.Wide {
				if row[x] != '#' && row[x] != '.' || row[x] == '#' != within(r, x, r.Tall-1-y) {
					t.Fatal(r, text)
				}
			}
		}
	}
	for _, r := range badRegions() {
		if impl.RegionText(r) != "" {
			t.Error(r, impl.RegionText(r))
		}
	}
	r := impl.Region{Wide: 3, Tall: 2, Cells: []bool{true, true, false, false, false, true}}
	if impl.RegionText(r) != "..#/##." {
		t.Error(impl.RegionText(r))
	}
}

func checkRead(t *testing.T, text string) {
	t.Helper()
	r, ok := impl.ReadRegion(text)
	if !ok && !nothing(r) || ok && (!impl.RegionValid(r) || impl.RegionText(r) != text) {
		t.Fatalf("%q: %v %v", text, r, ok)
	}
	for _, longer := range []string{text + "/", "/" + text, text + "\n", text + " "} {
		if r, again := impl.ReadRegion(longer); ok && (again || !nothing(r)) {
			t.Fatalf("%q: %v", longer, r)
		}
	}
}

// shortTexts returns all texts of at most so many bytes out of a few.
func shortTexts(bytes string, most int) []string {
	list := []string{""}
	for from := 0; most > 0; most-- {
		to := len(list)
		for _, text := range list[from:to] {
			for i := range len(bytes) {
				list = append(list, text+bytes[i:i+1])
			}
		}
		from = to
	}
	return list
}

func TestP60ReadTextsAreCanonical(t *testing.T) {
	read := 0
	for _, text := range shortTexts("#./x", 8) {
		checkRead(t, text)
		if _, ok := impl.ReadRegion(text); ok {
			read++
		}
	}
	// A text of 8 bytes has a letter for each cell, and a slash fewer than rows: so these are all regions of the fields that fit in.
	want := 0
	for wide := 1; wide <= impl.MaxSide; wide++ {
		for tall := 1; tall <= impl.MaxSide; tall++ {
			if (wide+1)*tall-1 <= 8 {
				want += 1 << (wide * tall)
			}
		}
	}
	if read != want {
		t.Error(read, "texts are read, not", want)
	}
	for _, r := range largeRegions() {
		checkRead(t, impl.RegionText(r))
	}
}

func TestP60OtherTextsAreRefused(t *testing.T) {
	row := strings.Repeat("#", 6)
	for _, text := range []string{
		"", "/", "//", "/////", "#/", "/#", "#//#", "##/#", "#/##", "##/##/#", "#/#/##",
		" ", "#\n", "\n#", "# #", "#x", "#\x00", "\x00", "\xff", "#\xff", "█", "＃", "#.é", "0", "e", "s",
		"#######", ".......", "./././././././", "././././././/", ".\\.", ".,.", "##|##", "#./.#\r",
		strings.Repeat("#/", 6) + "#", strings.Repeat(row+"/", 4) + "#.....", strings.Repeat("#####/", 4) + "#####",
		strings.Repeat(row+"/", 5) + row, strings.Repeat("......./", 5) + ".......",
		strings.Repeat("/", 1000), strings.Repeat("#", 1000), strings.Repeat(row+"/", 1000),
	} {
		r, ok := impl.ReadRegion(text)
		if ok || !nothing(r) {
			t.Errorf("%q: %v", text, r)
		}
	}
	for _, text := range []string{strings.Repeat(row+"/", 3) + row, strings.Repeat(row+"/", 3) + "......" + "/" + row, strings.Repeat("#####/", 4) + "####."} {
		if r, ok := impl.ReadRegion(text); !ok || impl.CellsMany(r) != impl.MaxCells {
			t.Errorf("%q: %v %v", text, r, ok)
		}
	}
}

func TestRegionConstants(t *testing.T) {
	if impl.MaxSide != 6 || impl.MaxCells != 24 {
		t.Error(impl.MaxSide, impl.MaxCells)
	}
}
