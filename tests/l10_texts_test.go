package tests

import (
	"maps"
	"math/rand"
	"slices"
	"strings"
	"testing"

	"loop.example/dominotilings/impl"
)

// checkDeedText holds DeedText against all texts, and reads the text.
func checkDeedText(t *testing.T, d impl.Deed) bool {
	t.Helper()
	want, has := textOf(d)
	text := impl.DeedText(d)
	if text != want {
		t.Fatalf("%v: %q, not %q", d, text, want)
	}
	if read, ok := impl.ReadDeed(text); ok != has || has && read != d || !has && read != (impl.Deed{}) {
		t.Fatalf("%v: %q is %v %v", d, text, read, ok)
	}
	return has
}

func TestP135TextsOfDeedsAreRead(t *testing.T) {
	many := 0
	for kind := -3; kind <= 8; kind++ {
		for spot := -12; spot <= 1002; spot++ {
			for way := -6; way <= 10; way++ {
				if checkDeedText(t, impl.Deed{Kind: kind, Spot: spot, Way: way}) {
					many++
				}
			}
		}
	}
	if many != 602 {
		t.Error(many, "deeds have a text")
	}
	for _, d := range oddDeeds() {
		checkDeedText(t, d)
		for _, far := range farNumbers() {
			checkDeedText(t, impl.Deed{Kind: d.Kind, Spot: far, Way: d.Way})
			checkDeedText(t, impl.Deed{Kind: d.Kind, Spot: d.Spot, Way: far})
			checkDeedText(t, impl.Deed{Kind: far, Spot: d.Spot, Way: d.Way})
		}
	}
}

func TestP135TextsThatAreKnown(t *testing.T) {
	for _, c := range []struct {
		d    impl.Deed
		text string
	}{
		{impl.Deed{Kind: impl.BkLay, Spot: 4, Way: impl.ToWest}, "lay 4 w"},
		{impl.Deed{Kind: impl.BkLay, Spot: 0, Way: impl.ToEast}, "lay 0 e"},
		{impl.Deed{Kind: impl.BkLay, Spot: 35, Way: impl.ToNorth}, "lay 35 n"},
		{impl.Deed{Kind: impl.BkLay, Spot: 99, Way: impl.ToSouth}, "lay 99 s"},
		{impl.Deed{Kind: impl.BkLift}, "lift 0"},
		{impl.Deed{Kind: impl.BkLift, Spot: 10}, "lift 10"},
		{impl.Deed{Kind: impl.BkFlip, Spot: 48}, "flip 48"},
		{impl.Deed{Kind: impl.BkFlip, Spot: 99}, "flip 99"},
		{impl.Deed{Kind: impl.BkForce}, "force"},
		{impl.Deed{Kind: impl.BkBack}, "back"},
		{impl.Deed{Kind: impl.BkLay, Spot: 4}, ""},
		{impl.Deed{Kind: impl.BkLay, Spot: 4, Way: 5}, ""},
		{impl.Deed{Kind: impl.BkLay, Spot: 4, Way: -1}, ""},
		{impl.Deed{Kind: impl.BkLay, Spot: 100, Way: 1}, ""},
		{impl.Deed{Kind: impl.BkLay, Spot: -1, Way: 1}, ""},
		{impl.Deed{Kind: impl.BkLift, Spot: 4, Way: 1}, ""},
		{impl.Deed{Kind: impl.BkLift, Spot: 100}, ""},
		{impl.Deed{Kind: impl.BkFlip, Spot: -1}, ""},
		{impl.Deed{Kind: impl.BkFlip, Spot: 5, Way: 4}, ""},
		{impl.Deed{Kind: impl.BkForce, Spot: 1}, ""},
		{impl.Deed{Kind: impl.BkForce, Way: 1}, ""},
		{impl.Deed{Kind: impl.BkBack, Spot: -1}, ""},
		{impl.Deed{Kind: impl.BkBack, Way: -1}, ""},
		{impl.Deed{Kind: 5}, ""},
		{impl.Deed{Kind: -1}, ""},
	} {
		if text := impl.DeedText(c.d); text != c.text {
			t.Errorf("%v: %q", c, text)
		}
	}
}

// checkReadDeed holds ReadDeed of any text against all texts.
func checkReadDeed(t *testing.T, text string, texts map[string]impl.Deed) {
	t.Helper()
	want, has := texts[text]
	d, ok := impl.ReadDeed(text)
	if ok != has || d != want || ok && impl.DeedText(d) != text {
		t.Fatalf("%q: %v %v", text, d, ok)
	}
}

// TestP136ReadTextsAreCanonical changes all texts at any place.
func TestP136ReadTextsAreCanonical(t *testing.T) {
	texts, i := toldTexts(), 0
	for _, text := range slices.Sorted(maps.Keys(texts)) {
		i++
		checkReadDeed(t, text, texts)
		for place := range len(text) + 1 {
			head, tail := text[:place], text[place:]
			checkReadDeed(t, head, texts)
			checkReadDeed(t, tail, texts)
			checkReadDeed(t, tail+head, texts)
			checkReadDeed(t, strings.ToUpper(head)+tail, texts)
			checkReadDeed(t, head+strings.ToUpper(tail), texts)
			if tail != "" {
				checkReadDeed(t, head+tail[1:], texts)
			}
			for _, more := range []string{" ", "  ", "0", "00", "+", "-", "e", "s", "#", "\n", "\r", "\r\n", "\t", "\x00", "\x80", "\xff", "é", "٣", "\u00a0", "_", ".", ",", "0x", "1"} {
				checkReadDeed(t, head+more+tail, texts)
			}
			if i%10 > 0 {
				continue
			}
			for letter := range 256 {
				one := string([]byte{byte(letter)})
				checkReadDeed(t, head+one+tail, texts)
				if tail != "" {
					checkReadDeed(t, head+one+tail[1:], texts)
				}
			}
		}
	}
}

func TestP136OtherTextsOfDeedsAreRefused(t *testing.T) {
	texts := toldTexts()
	for _, text := range append(oddLines(), questions()...) {
		if d, ok := impl.ReadDeed(text); ok || d != (impl.Deed{}) {
			t.Errorf("%q: %v", text, d)
		}
	}
	for _, number := range []string{"", "00", "01", "000", "007", "100", "101", "999", "1000", "-0", "-1", "+0", "+1", "-9", "0.0", "1e1", "0x1", "0b1", "1_0", "9223372036854775807", "9223372036854775808", "-9223372036854775808", "18446744073709551616", "18446744073709551620", "4294967296", strings.Repeat("9", 1000), strings.Repeat("0", 1000) + "1", "٣", "²", "x"} {
		for _, text := range []string{"lay " + number + " e", "lift " + number, "flip " + number, "lay e " + number, number, number + " e", "lay " + number} {
			checkReadDeed(t, text, texts)
			if d, ok := impl.ReadDeed(text); ok {
				t.Errorf("%q: %v", text, d)
			}
		}
	}
	for _, way := range []string{"", "E", "N", "W", "S", "#", "0", "1", "4", "x", "en", "ee", "enws", "#enws", "#e", "east", "e e", "e 0", " e", "é"} {
		if d, ok := impl.ReadDeed("lay 0 " + way); ok {
			t.Errorf("%q: %v", way, d)
		}
	}
	for _, name := range []string{"", "LAY", "Lay", "laY", "la", "layy", "Lift", "LIFT", "lifts", "Flip", "flipp", "put", "0", "1", "l"} {
		for _, rest := range []string{"", " ", " 0", " 0 e", " 5", "5"} {
			if d, ok := impl.ReadDeed(name + rest); ok {
				t.Errorf("%q: %v", name+rest, d)
			}
		}
	}
	for _, text := range []string{strings.Repeat(" ", 1<<16), strings.Repeat("lay 0 e", 1<<12), "lay 0 " + strings.Repeat("e", 1<<16), "lay 0 e" + strings.Repeat(" ", 1<<16)} {
		if d, ok := impl.ReadDeed(text); ok {
			t.Errorf("a text of %d bytes: %v", len(text), d)
		}
	}
}

// TestP136AllShortTexts tries all texts out of a few bytes.
func TestP136AllShortTexts(t *testing.T) {
	texts := toldTexts()
	for _, text := range shortTexts("back \n", 6) {
		checkReadDeed(t, text, texts)
	}
	for _, text := range shortTexts("0 19e-+xn", 4) {
		checkReadDeed(t, "lay "+text, texts)
		checkReadDeed(t, "lift "+text, texts)
		checkReadDeed(t, "flip "+text, texts)
		checkReadDeed(t, text, texts)
	}
}

// toldJournal is ReadJournal: it holds the lines of a text against all texts.
func toldJournal(s string, texts map[string]impl.Deed) ([]impl.Deed, int) {
	var list []impl.Deed
	many, from := 0, 0
	for place := range len(s) {
		if s[place] != '\n' {
			continue
		}
		d, ok := texts[s[from:place]]
		if !ok {
			break
		}
		list = append(list, d)
		from, many = place+1, place+1
	}
	return list, many
}

// toldText is JournalText of deeds that have a text.
func toldText(list []impl.Deed) string {
	text := ""
	for _, d := range list {
		line, _ := textOf(d)
		text += line + "\n"
	}
	return text
}

// checkCuts cuts a journal at any place.
func checkCuts(t *testing.T, list []impl.Deed, texts map[string]impl.Deed) {
	t.Helper()
	text := toldText(list)
	for cut := range len(text) + 1 {
		first, many := impl.ReadJournal(text[:cut])
		lines := strings.Count(text[:cut], "\n")
		if !slices.Equal(first, list[:lines]) || many != len(toldText(list[:lines])) || impl.JournalText(first) != text[:many] {
			t.Fatalf("%q cut at %d: %v %d", text, cut, first, many)
		}
		for _, more := range []string{"\n", " ", "x", "\nback\n", "end\n", "show\nback\n", " \n", "\r\nback\n", "lay 1 n", "force\n", "\x00\n"} {
			longer := text[:cut] + more + text[cut:]
			want, told := toldJournal(longer, texts)
			if got, many := impl.ReadJournal(longer); !slices.Equal(got, want) || many != told {
				t.Fatalf("%q: %v %d", longer, got, many)
			}
		}
	}
}

func TestP43WhereverAJournalIsCut(t *testing.T) {
	dice, texts := rand.New(rand.NewSource(14)), toldTexts()
	for i, s := range shelves(t) {
		if i%25 > 0 {
			continue
		}
		list := withTexts(busyDeeds(s.book, dice, []int{0, 1, 2, 7, 45}[i/25%5]))
		checkCuts(t, list, texts)
		// Any beginning of the journal leads to a book of before.
		text := impl.JournalText(list[:min(len(list), impl.MaxLines)])
		for cut := range len(text) + 1 {
			first, _ := impl.ReadJournal(text[:cut])
			before, done := impl.BookRun(s.book, first)
			if want, told := toldDeeds(s.book, list[:strings.Count(text[:cut], "\n")]); !sameBook(before, want) || done != told {
				t.Fatalf("%v %q cut at %d", s.book, text, cut)
			}
		}
	}
}

// TestP43JournalsAreSaid says journals line by line, also ones that are too long for that.
func TestP43JournalsAreSaid(t *testing.T) {
	dice := rand.New(rand.NewSource(15))
	long := map[bool]int{}
	for i, s := range shelves(t) {
		list := withTexts(busyDeeds(s.book, dice, []int{4, 41, 20, 44}[i%4]))
		lines := strings.Split(impl.JournalText(list), "\n")
		lines = lines[:len(lines)-1]
		run, done := impl.BookRun(s.book, list)
		said, answers := impl.BookSay(s.book, lines)
		if !sameBook(run, said) || len(lines) != len(list) {
			t.Fatal(s.book, list, run, said)
		}
		long[len(list) > 40]++
		if len(list) > 40 {
			if !noBook(said) || done != 0 || len(answers) != 0 {
				t.Fatal("too long", s.book, list, said, answers)
			}
			continue
		}
		oks := slices.DeleteFunc(slices.Clone(answers), func(answer string) bool { return answer != "ok" })
		if len(answers) != len(list) || len(oks) != done {
			t.Fatal(s.book, list, answers, done)
		}
	}
	if long[true] < 100 || long[false] < 100 {
		t.Error("too few are long, or short", long)
	}
}

func TestP137JournalsAreRead(t *testing.T) {
	dice := rand.New(rand.NewSource(16))
	deeds := withTexts(append(fieldDeeds(filled(6, 6, 24)), oddDeeds()...))
	for _, many := range []int{0, 1, 2, 3, 39, 40, 41, 500, 20000} {
		var list []impl.Deed
		for range many {
			list = append(list, deeds[dice.Intn(len(deeds))])
		}
		text := impl.JournalText(list)
		read, bytes := impl.ReadJournal(text)
		if !slices.Equal(read, list) || bytes != len(text) || strings.Count(text, "\n") != many {
			t.Fatal(many, len(read), bytes)
		}
		if many <= 500 && text != toldText(list) {
			t.Fatal(list, text)
		}
	}
}

// TestP137AllDeedsNeedAText puts a deed without a text at any place.
func TestP137AllDeedsNeedAText(t *testing.T) {
	good := []impl.Deed{{Kind: impl.BkForce}, {Kind: impl.BkLay, Spot: 9, Way: 2}, {Kind: impl.BkBack}}
	for _, d := range oddDeeds() {
		_, has := textOf(d)
		for place := range len(good) + 1 {
			list := slices.Insert(slices.Clone(good), place, d)
			want := ""
			if has {
				want = toldText(list)
			}
			if text := impl.JournalText(list); text != want {
				t.Fatalf("%v: %q", list, text)
			}
		}
	}
	if text := impl.JournalText(nil); text != "" {
		t.Errorf("%q", text)
	}
}

func TestP137JournalsThatAreKnown(t *testing.T) {
	for _, c := range []struct {
		text  string
		lines int
		bytes int
	}{
		{"", 0, 0}, {"\n", 0, 0}, {"\n\n", 0, 0}, {" ", 0, 0}, {" \n", 0, 0},
		{"back", 0, 0}, {"back\n", 1, 5}, {"back\n\n", 1, 5}, {"\nback\n", 0, 0}, {"back\nback", 1, 5}, {"back\nback\n", 2, 10}, {"back\n\nback\n", 1, 5},
		{"lay 0 n\nback\nlift", 2, 13}, {"lay 0 n\nback\nlift\n", 2, 13}, {"lay 0 n\nback\nlift 3\n", 3, 20},
		{"force\nshow\nback\n", 1, 6}, {"end\nback\n", 0, 0}, {"force\nBACK\nback\n", 1, 6}, {"force\nback \nback\n", 1, 6}, {"force\n back\nback\n", 1, 6},
		{"force\r\nback\r\n", 0, 0}, {"force\nback\r\n", 1, 6}, {"force\rback\n", 0, 0}, {"back\x00\n", 0, 0}, {"back\nlay 1 e\xff\n", 1, 5}, {"back\nlay 01 e\n", 1, 5},
		{"lay 99 s\nflip 0\nflip 100\n", 2, 16}, {"lift 5\nlift 6 e\n", 1, 7}, {"back\n\xff", 1, 5}, {"lay 1\ne\n", 0, 0}, {"lift 1 \n", 0, 0},
	} {
		list, bytes := impl.ReadJournal(c.text)
		if len(list) != c.lines || bytes != c.bytes || impl.JournalText(list) != c.text[:c.bytes] {
			t.Errorf("%q: %v %d", c.text, list, bytes)
		}
	}
	if list, _ := impl.ReadJournal("lay 0 n\nback\nlift"); !slices.Equal(list, []impl.Deed{{Kind: impl.BkLay, Way: impl.ToNorth}, {Kind: impl.BkBack}}) {
		t.Error(list)
	}
	for _, text := range []string{strings.Repeat("\n", 1<<16), strings.Repeat("back", 1<<16), strings.Repeat(" \n", 1<<16), strings.Repeat("x", 1<<16) + "\n"} {
		if list, bytes := impl.ReadJournal(text); len(list) != 0 || bytes != 0 {
			t.Error(len(text), len(list), bytes)
		}
	}
	long := strings.Repeat("lift 7\n", 1<<15)
	if list, bytes := impl.ReadJournal(long + "lift 7"); len(list) != 1<<15 || bytes != len(long) || list[len(list)-1] != (impl.Deed{Kind: impl.BkLift, Spot: 7}) {
		t.Error(len(list), bytes)
	}
}
