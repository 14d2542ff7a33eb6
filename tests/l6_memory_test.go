package tests

import (
	"math"
	"runtime"
	"slices"
	"sync"
	"testing"
	"time"

	"loop.example/dominotilings/impl"
)

// shove has all that functions of the chapter take: a region, two lists that lay dominoes on it, and pushes.
type shove struct {
	p    pair
	list []impl.Push
}

// pushMakers are all functions of the chapter that return a list of dominoes.
func pushMakers() map[string]func(s shove) []int {
	one := func(p impl.Push) func(s shove) []int {
		return func(s shove) []int { return impl.PushOne(s.p.r, s.p.a, p) }
	}
	return map[string]func(s shove) []int{
		"PushOne":           one(impl.Push{Corner: 5, Up: true}),
		"PushOne down":      one(impl.Push{Corner: 5}),
		"PushOne elsewhere": one(impl.Push{Corner: 0, Up: true}),
		"PushOne nowhere":   one(impl.Push{Corner: -1}),
		"PushRun":           func(s shove) []int { return impl.PushRun(s.p.r, s.p.a, s.list) },
		"PushRun of none":   func(s shove) []int { return impl.PushRun(s.p.r, s.p.a, nil) },
		"FromPast": func(s shove) []int {
			laid, _, _ := impl.FromPast(s.p.r, s.list)
			return laid
		},
	}
}

// numbersOf calls all functions of the chapter that return no list, for a region and lists.
func numbersOf(s shove) []int {
	list := []int{0, 0, impl.PushedMany(s.p.r, s.list), impl.CoupledAt(s.p.r, s.list)}
	if impl.PushesValid(s.p.r, s.list) {
		list[0] = 1
	}
	if impl.Coupled(s.p.r, s.list) {
		list[1] = 1
	}
	return append(list,
		impl.PushesFrom(s.p.r, s.p.a, s.p.b),
		impl.PushesInto(s.p.r, s.p.b),
		impl.HeightSum(s.p.r, 5),
		impl.HeightSum(s.p.r, 100),
		len(impl.PushesBy(s.p.r, 1, 9)),
	)
}

// shoves returns arguments for which each function has a result, and some for which it has none.
func shoves(t *testing.T) []shove {
	t.Helper()
	var list []shove
	pushes := [][]impl.Push{nil, pushesOf("5+ 6+ 4- 5-"), pushesOf("6+ 8+ 16+ 18+ 7+ 17+ 12+ 11+ 13+ 6+ 8+ 16+ 18+ 7+ 17+ 12+"), pushesOf("4+ 99-"), make([]impl.Push, impl.MaxPushes), make([]impl.Push, impl.MaxPushes+1)}
	for i, p := range flipPairs(t) {
		list = append(list, shove{p, pushes[i%len(pushes)]}, shove{p, pushes[1]})
	}
	for _, text := range []string{"##", "##/##", "####/####/####/####", "######/######/######/######", "##./##./###", "###"} {
		r := region(t, text)
		low, _ := impl.Lowest(r)
		high, _ := impl.Highest(r)
		for _, some := range pushes {
			list = append(list, shove{pair{r, low, high}, some}, shove{pair{r, high, high}, some})
		}
		list = append(list, shove{pair{r, high, low}, allPushes(r)}, shove{pair{r, low, low}, impl.PushesBy(r, 3, impl.MaxPushes)})
	}
	return list
}

// roomyShove returns the arguments with spare capacity behind all that has some.
func roomyShove(s shove) shove {
	list := append(make([]impl.Push, 0, len(s.list)+8), s.list...)
	return shove{roomyPair(s.p), list}
}

func wholePushes(list []impl.Push) []impl.Push {
	return slices.Clone(list[:cap(list)])
}

// overwrite writes into all memory that pushes have.
func overwrite(list []impl.Push) {
	all := list[:cap(list)]
	for i := range all {
		all[i] = impl.Push{Corner: all[i].Corner + 7, Up: !all[i].Up}
	}
}

// spoil writes into all memory that arguments have.
func spoil(s shove) {
	invert(s.p.r)
	scribble(s.p.a)
	scribble(s.p.b)
	overwrite(s.list)
}

// checkShove compares arguments with copies of all their memory.
func checkShove(t *testing.T, name string, s shove, cells []bool, lists [][]int, pushes []impl.Push) {
	t.Helper()
	after, other := wholePair(s.p)
	if !slices.Equal(after, cells) || !sameLists(other, lists) || !slices.Equal(wholePushes(s.list), pushes) {
		t.Fatal(name, "writes into", s)
	}
}

func TestPushesWriteNowhere(t *testing.T) {
	for name, maker := range pushMakers() {
		for _, given := range shoves(t) {
			s := roomyShove(given)
			cells, lists := wholePair(s.p)
			pushes := wholePushes(s.list)
			maker(s)
			checkShove(t, name, s, cells, lists, pushes)
			numbersOf(s)
			checkShove(t, "a question", s, cells, lists, pushes)
		}
	}
}

func TestPushesShareNoMemory(t *testing.T) {
	for name, maker := range pushMakers() {
		for _, given := range shoves(t) {
			s := roomyShove(given)
			cells, lists := wholePair(s.p)
			pushes := wholePushes(s.list)
			first, second := maker(s), maker(s)
			kept := wholeList(first)
			scribble(second)
			checkShove(t, name, s, cells, lists, pushes)
			if !slices.Equal(wholeList(first), kept) || !slices.Equal(maker(s), first) {
				t.Fatal(name, "shares memory or remembers", given)
			}
			spoil(s)
			if !slices.Equal(wholeList(first), kept) {
				t.Fatal(name, "keeps memory of", given)
			}
		}
	}
}

func TestPushesBySharesNoMemory(t *testing.T) {
	for _, text := range []string{"#", "###/###", "####/####/####/####"} {
		for _, many := range []int{0, 1, 5, impl.MaxPushes} {
			r := roomy(region(t, text))
			cells := whole(r)
			first, second := impl.PushesBy(r, 1, many), impl.PushesBy(r, 1, many)
			kept := wholePushes(first)
			overwrite(second)
			if !slices.Equal(whole(r), cells) || !slices.Equal(wholePushes(first), kept) {
				t.Fatal("shares memory of", text, many)
			}
			invert(r)
			if !slices.Equal(wholePushes(first), kept) || !slices.Equal(impl.PushesBy(region(t, text), 1, many), first) {
				t.Fatal("keeps memory of", text, many)
			}
		}
	}
}

// TestPushesAreDoneWhenTheyReturn writes into the arguments and the results at once: with the race detector it fails if a goroutine still reads or writes them.
func TestPushesAreDoneWhenTheyReturn(t *testing.T) {
	before := runtime.NumGoroutine()
	for range 5 {
		for _, given := range shoves(t) {
			s := roomyShove(given)
			impl.Coupled(s.p.r, s.list)
			spoil(s)
			s = roomyShove(given)
			impl.CoupledAt(s.p.r, s.list)
			spoil(s)
			s = roomyShove(given)
			laid, _, _ := impl.FromPast(s.p.r, s.list)
			scribble(laid)
			spoil(s)
		}
	}
	// A goroutine that has told that it is done may take a moment to be gone.
	for i := 0; runtime.NumGoroutine() > before; i++ {
		if i == 1000 {
			t.Fatal("goroutines are left behind", before, runtime.NumGoroutine())
		}
		time.Sleep(time.Millisecond)
	}
}

// TestPushesAreTheSameEachTime asks from several goroutines at the same time, which share all arguments.
func TestPushesAreTheSameEachTime(t *testing.T) {
	var all sync.WaitGroup
	for _, s := range shoves(t) {
		numbers := numbersOf(s)
		laid, many, ok := impl.FromPast(s.p.r, s.list)
		for range 3 {
			all.Go(func() {
				again, last, told := impl.FromPast(s.p.r, s.list)
				if !slices.Equal(numbersOf(s), numbers) || !slices.Equal(again, laid) || last != many || told != ok {
					t.Error("not the same", s, numbers, again, last, told)
				}
			})
		}
		all.Wait()
	}
}

func TestNothingPanicsWithPushes(t *testing.T) {
	var list []shove
	for _, s := range shoves(t) {
		list = append(list, s, shove{pair{s.p.r, s.p.b, nil}, s.list})
		for _, p := range []impl.Push{{Corner: math.MinInt}, {Corner: math.MaxInt, Up: true}, {Corner: -1, Up: true}, {Corner: 49}} {
			list = append(list, shove{s.p, append(slices.Clone(s.list), p)}, shove{s.p, []impl.Push{p}})
		}
		for _, far := range []int{math.MinInt, math.MaxInt, -1, 5} {
			list = append(list, shove{pair{s.p.r, slices.Repeat([]int{far}, len(s.p.a)), s.p.b}, s.list}, shove{pair{s.p.r, s.p.a, slices.Repeat([]int{far}, len(s.p.a))}, nil})
		}
	}
	for _, s := range list {
		numbersOf(s)
		for _, maker := range pushMakers() {
			maker(s)
		}
	}
	for _, r := range append(notSimple(t), filled(1, 1, 1), filled(6, 4, 24)) {
		for _, far := range append(farNumbers(), 0, 5, lastSeed, lastSeed+1, impl.MaxPushes+1) {
			impl.HeightSum(r, far)
			impl.SeedNext(far)
			impl.PushesBy(r, far, 5)
			impl.PushesBy(r, 5, far)
		}
	}
}
