package tests

import (
	"math/rand"
	"slices"
	"strconv"
	"strings"
	"sync"
	"testing"

	"loop.example/dominotilings/impl"
)

// puzzle is a region with a number for each of its cells, and a list that lays dominoes on it; or something that is none of these.
type puzzle struct {
	r      impl.Region
	digits []int
	laid   []int
}

// readRows returns the letters of a text by the indices of their cells.
func readRows(text string) (int, int, string) {
	rows := strings.Split(text, "/")
	slices.Reverse(rows)
	return len(rows[0]), len(rows), strings.Join(rows, "")
}

// drawnList reads a list from the letters that LaidText has.
func drawnList(text string) []int {
	_, _, letters := readRows(text)
	var laid []int
	for _, letter := range letters {
		laid = append(laid, max(0, strings.IndexRune("#enws", letter)))
	}
	return laid
}

// drawnPuzzle reads a puzzle from the letters that PuzzleText has, and its dominoes from those of LaidText; "" for none.
func drawnPuzzle(text string, laid string) puzzle {
	wide, tall, letters := readRows(text)
	p := puzzle{r: filled(wide, tall, 0), laid: make([]int, wide*tall)}
	for cell, letter := range letters {
		p.r.Cells[cell] = letter != '.'
		p.digits = append(p.digits, strings.IndexRune("0123456", letter))
	}
	if laid != "" {
		p.laid = drawnList(laid)
	}
	return p
}

// with returns the puzzle with other dominoes.
func (p puzzle) with(laid []int) puzzle {
	return puzzle{p.r, p.digits, laid}
}

func (p puzzle) at(q place) int {
	return p.digits[indexOf(p.r, q)]
}

// inOrder returns the dominoes of a right list by the indices of their first places.
func inOrder(r impl.Region, laid []int) []domino {
	var list []domino
	for d := range dominoesOf(r, laid) {
		list = append(list, d)
	}
	slices.SortFunc(list, func(a domino, b domino) int { return indexOf(r, a[0]) - indexOf(r, b[0]) })
	return list
}

// toldPair is PairOf for numbers in 0..6: both are the digits of a number to the base 7.
func toldPair(a int, b int) int {
	number, _ := strconv.ParseInt(strconv.Itoa(min(a, b))+strconv.Itoa(max(a, b)), impl.MaxDigit+1, 0)
	return int(number)
}

// toldPairs is PairsOf for a valid puzzle and a right list.
func toldPairs(p puzzle) []int {
	var list []int
	for _, d := range inOrder(p.r, p.laid) {
		list = append(list, toldPair(p.at(d[0]), p.at(d[1])))
	}
	return list
}

// toldFair is FairOk for a valid puzzle and a right list: it marks each pair in both orders.
func toldFair(p puzzle) bool {
	seen := map[[2]int]bool{}
	for d := range dominoesOf(p.r, p.laid) {
		a, b := p.at(d[0]), p.at(d[1])
		if seen[[2]int{a, b}] {
			return false
		}
		seen[[2]int{a, b}], seen[[2]int{b, a}] = true, true
	}
	return true
}

// further returns the puzzle with a domino more, which must fit in.
func (p puzzle) further(cell int, way int) puzzle {
	laid := slices.Clone(p.laid)
	laid[cell], laid[indexOf(p.r, aside(placeOf(p.r, cell), way))] = way, back(way)
	return p.with(laid)
}

// toldOptions is OptionsOf for a valid puzzle and a fair list: it lays each domino and looks whether that is fair.
func toldOptions(p puzzle, cell int) []int {
	var list []int
	for _, way := range allWays() {
		if mayLay(field{p.r, p.laid}, cell, way) && toldFair(p.further(cell, way)) {
			list = append(list, way)
		}
	}
	return list
}

// bareCells returns the cells of the region without a domino.
func bareCells(p puzzle) []int {
	var list []int
	for cell, has := range p.r.Cells {
		if has && p.laid[cell] == impl.ToNone {
			list = append(list, cell)
		}
	}
	return list
}

// firstBare returns the first cell without a domino that has so many options, and -1 if there is none.
func firstBare(p puzzle, many int) int {
	for _, cell := range bareCells(p) {
		if len(toldOptions(p, cell)) == many {
			return cell
		}
	}
	return -1
}

// toldForceOne is ForceOne for a valid puzzle and a fair list.
func toldForceOne(p puzzle) (puzzle, bool) {
	cell := firstBare(p, 1)
	if cell < 0 {
		return p, false
	}
	return p.further(cell, toldOptions(p, cell)[0]), true
}

// toldForceAll is ForceAll for a valid puzzle and a fair list.
func toldForceAll(p puzzle) puzzle {
	for {
		further, ok := toldForceOne(p)
		if !ok {
			return p
		}
		p = further
	}
}

// task is a puzzle with all of its solutions in their order, and with fair lists, the one without dominoes first.
type task struct {
	puzzle
	solutions [][]int
	lists     [][]int
}

// those returns the solutions that have all dominoes of a list.
func (k task) those(laid []int) [][]int {
	var list [][]int
	for _, solution := range k.solutions {
		if hasAll(solution, laid) {
			list = append(list, solution)
		}
	}
	return list
}

// toldSolutions keeps the fair ones of all tilings.
func toldSolutions(p puzzle, tilings [][]int) [][]int {
	var list [][]int
	for _, laid := range tilings {
		if toldFair(p.with(laid)) {
			list = append(list, laid)
		}
	}
	return list
}

// numbered gives each cell of a region one of the first numbers, and -1 to other cells.
func numbered(r impl.Region, numbers int, dice *rand.Rand) []int {
	digits := slices.Repeat([]int{-1}, len(r.Cells))
	for cell, has := range r.Cells {
		if has {
			digits[cell] = dice.Intn(numbers)
		}
	}
	return digits
}

// everywhere gives each cell of a region the same number.
func everywhere(r impl.Region, digit int) []int {
	digits := slices.Repeat([]int{-1}, len(r.Cells))
	for cell, has := range r.Cells {
		if has {
			digits[cell] = digit
		}
	}
	return digits
}

// pairsTold returns all pairs of numbers in order: the numbers of two digits to the base 7 whose digits do not fall.
func pairsTold() [][2]int {
	var list [][2]int
	for number := range 49 {
		if a, b := number/7, number%7; a <= b {
			list = append(list, [2]int{a, b})
		}
	}
	return list
}

// fitted returns numbers for which a tiling is a solution, with pairs in any order.
func fitted(r impl.Region, laid []int, dice *rand.Rand) []int {
	digits, pairs := slices.Repeat([]int{-1}, len(r.Cells)), pairsTold()
	dice.Shuffle(len(pairs), func(i int, j int) { pairs[i], pairs[j] = pairs[j], pairs[i] })
	for i, d := range inOrder(r, laid) {
		turn := dice.Intn(2)
		digits[indexOf(r, d[0])], digits[indexOf(r, d[1])] = pairs[i][turn], pairs[i][1-turn]
	}
	return digits
}

// fairLaid lays dominoes at random, as long as they are fair.
func fairLaid(p puzzle, dice *rand.Rand) []int {
	places := spots(p.r)
	most := dice.Intn(len(places) + 1)
	p = p.with(make([]int, len(p.r.Cells)))
	for _, i := range dice.Perm(len(places))[:most] {
		laid := slices.Clone(p.laid)
		if put(p.r, laid, places[i]) && toldFair(p.with(laid)) {
			p = p.with(laid)
		}
	}
	return p.laid
}

// partOf keeps some dominoes of a list.
func partOf(r impl.Region, laid []int, dice *rand.Rand) []int {
	part := make([]int, len(laid))
	for _, d := range inOrder(r, laid) {
		if dice.Intn(3) > 0 {
			put(r, part, d)
		}
	}
	return part
}

// tinyTasks returns all puzzles with the numbers 0 and 1 of the regions of a few fields, with all fair lists of each.
func tinyTasks() []task {
	var list []task
	for _, r := range tinyRegions(6) {
		if len(r.Cells) == 5 || len(r.Cells) == 6 && (r.Wide == 1 || r.Tall == 1) {
			continue
		}
		laid, many := allLaid(r), countCells(r)
		tilings := tilingsOf(r, laid)
		for mask := range 1 << many {
			k := task{puzzle: puzzle{r: r, digits: everywhere(r, 0)}}
			for cell, has := range r.Cells {
				if has {
					k.digits[cell], mask = mask&1, mask>>1
				}
			}
			k.lists = toldSolutions(k.puzzle, laid)
			k.solutions = toldSolutions(k.puzzle, tilings)
			list = append(list, k)
		}
	}
	return list
}

// puzzleRegions returns regions of every field, most with tilings, also with holes, in several parts and without cells.
func puzzleRegions(t *testing.T, dice *rand.Rand) []impl.Region {
	t.Helper()
	list := slices.Concat(someRegions(), twistedRegions(t), holedRegions(t))
	for wide := 1; wide <= impl.MaxSide; wide++ {
		for tall := 1; tall <= impl.MaxSide; tall++ {
			if wide*tall <= impl.MaxCells {
				list = append(list, filled(wide, tall, wide*tall))
			}
			if wide > 1 && tall > 1 {
				list = append(list, grown(wide, tall, 2, dice), grown(wide, tall, 2, dice))
			}
		}
	}
	for i, r := range largeRegions() {
		if i%20 == 0 {
			list = append(list, r)
		}
	}
	return list
}

// taskOf adds lists to a puzzle.
func taskOf(r impl.Region, digits []int, tilings [][]int, dice *rand.Rand) task {
	k := task{puzzle: puzzle{r, digits, nil}}
	k.solutions = toldSolutions(k.puzzle, tilings)
	k.lists = append(k.lists, make([]int, len(r.Cells)), fairLaid(k.puzzle, dice), fairLaid(k.puzzle, dice))
	if many := len(k.solutions); many > 0 {
		k.lists = append(k.lists, k.solutions[0], partOf(r, k.solutions[many-1], dice), partOf(r, k.solutions[dice.Intn(many)], dice))
	}
	return k
}

// largeTasks returns puzzles with few numbers and with all, without a solution and with some.
func largeTasks(t *testing.T) []task {
	t.Helper()
	var list []task
	dice := rand.New(rand.NewSource(11))
	for _, r := range puzzleRegions(t, dice) {
		tilings := impl.TilingsAll(r)
		for _, numbers := range []int{1, 2, 4, 7} {
			list = append(list, taskOf(r, numbered(r, numbers, dice), tilings, dice))
		}
		if many := len(tilings); many > 0 {
			list = append(list, taskOf(r, fitted(r, tilings[0], dice), tilings, dice), taskOf(r, fitted(r, tilings[dice.Intn(many)], dice), tilings, dice))
		}
	}
	return list
}

var taskStore struct {
	once sync.Once
	list []task
}

// tasks returns puzzles with their solutions and with fair lists, the same ones each time.
func tasks(t *testing.T) []task {
	t.Helper()
	taskStore.once.Do(func() { taskStore.list = append(tinyTasks(), largeTasks(t)...) })
	return taskStore.list
}

// eachFair calls a function for all fair lists of all tasks.
func eachFair(t *testing.T, check func(k task, p puzzle)) {
	t.Helper()
	for _, k := range tasks(t) {
		for _, laid := range k.lists {
			check(k, k.with(laid))
		}
	}
}

// badDigits returns regions with lists of numbers that are no puzzle: regions that are not valid, lists that are too short or too long, and numbers that no cell has.
func badDigits() []puzzle {
	var list []puzzle
	for _, r := range badRegions() {
		many := len(r.Cells)
		list = append(list, puzzle{r: r}, puzzle{r: r, digits: make([]int, many), laid: make([]int, many)}, puzzle{r: r, digits: slices.Repeat([]int{-1}, many), laid: make([]int, many)})
		list = append(list, puzzle{r, everywhere(r, 3), make([]int, many)})
	}
	square, none := filled(2, 2, 4), filled(2, 2, 0)
	for _, many := range []int{0, 1, 3, 5, 8, 36} {
		list = append(list, puzzle{square, make([]int, many), make([]int, 4)}, puzzle{square, make([]int, many), make([]int, many)})
		list = append(list, puzzle{none, slices.Repeat([]int{-1}, many), make([]int, 4)})
	}
	for _, digit := range append(farNumbers(), -2, 7, 8, 10, 48) {
		list = append(list, puzzle{square, []int{0, 1, 2, digit}, make([]int, 4)}, puzzle{square, []int{digit, 1, 2, 3}, []int{1, 3, 1, 3}})
		list = append(list, puzzle{filled(2, 1, 2), []int{digit, digit}, []int{1, 3}}, puzzle{filled(2, 1, 1), []int{digit, digit}, []int{0, 0}})
	}
	for digit := -8; digit <= 8; digit++ {
		if digit != -1 {
			list = append(list, puzzle{filled(2, 2, 3), []int{0, 1, 2, digit}, make([]int, 4)}, puzzle{none, []int{-1, digit, -1, -1}, make([]int, 4)})
		}
	}
	// What these lists have for the cells of the region is right, but it stands elsewhere.
	return append(list, puzzle{filled(2, 1, 1), []int{-1, 0}, make([]int, 2)}, puzzle{filled(2, 2, 2), []int{-1, -1, 1, 1}, make([]int, 4)})
}

// badLaid returns valid puzzles with lists that are not right.
func badLaid() []puzzle {
	var list []puzzle
	for _, f := range wrongFields() {
		if impl.RegionValid(f.r) {
			digits := everywhere(f.r, 6)
			for cell, digit := range digits {
				if digit >= 0 {
					digits[cell] = cell % 7
				}
			}
			list = append(list, puzzle{f.r, digits, f.laid})
		}
	}
	return list
}

// wrongPuzzles returns puzzles and lists of which one or both are not right.
func wrongPuzzles() []puzzle {
	return append(badDigits(), badLaid()...)
}

// unfairPuzzles returns valid puzzles with right lists in which a pair comes twice.
func unfairPuzzles(t *testing.T) []puzzle {
	t.Helper()
	list := []puzzle{
		drawnPuzzle("0101", "ewew"), drawnPuzzle("0110", "ewew"), drawnPuzzle("53.35", "ew.ew"), drawnPuzzle("00/00", "ew/ew"), drawnPuzzle("00/00", "ss/nn"),
		drawnPuzzle("66/66", "ss/nn"), drawnPuzzle("01/10", "ew/ew"), drawnPuzzle("53/35", "ss/nn"), drawnPuzzle("011/012", "ews/ewn"),
		drawnPuzzle("1200/..21", "ew##/..ew"), drawnPuzzle("4/5/0/0/5/4", "s/n/#/#/s/n"), drawnPuzzle("012345/654321/603412", "######/ewew##/##ew##"),
	}
	for i, k := range tasks(t) {
		if i%7 > 0 {
			continue
		}
		for _, laid := range impl.TilingsAll(k.r) {
			if p := k.with(laid); !toldFair(p) {
				list = append(list, p)
				break
			}
		}
	}
	return list
}
