package tests

import (
	"slices"
	"testing"

	"loop.example/dominotilings/impl"
)

func TestP10TilingsTellRanks(t *testing.T) {
	for _, r := range validRegions() {
		for rank, want := range impl.TilingsAll(r) {
			laid, ok := impl.TilingOf(r, rank)
			if !ok || !slices.Equal(laid, want) || impl.RankOf(r, laid) != rank {
				t.Fatal(r, rank, laid, want)
			}
		}
	}
}

func TestP10OtherRanks(t *testing.T) {
	for _, r := range validRegions() {
		many := len(impl.TilingsAll(r))
		for _, rank := range []int{-1, -2, many, many + 1, -1 << 63, 1<<63 - 1} {
			if laid, ok := impl.TilingOf(r, rank); ok || len(laid) != 0 {
				t.Fatal(r, rank, laid)
			}
		}
	}
	for _, r := range badRegions() {
		for _, rank := range append(farNumbers(), -2, 0, 1) {
			if laid, ok := impl.TilingOf(r, rank); ok || len(laid) != 0 {
				t.Error(r, rank, laid)
			}
		}
	}
}

func TestP82RanksTellTilings(t *testing.T) {
	for _, f := range tiledFields() {
		rank := impl.RankOf(f.r, f.laid)
		laid, ok := impl.TilingOf(f.r, rank)
		if !ok || !slices.Equal(laid, f.laid) {
			t.Fatal(f, rank, laid)
		}
	}
	for _, r := range smallRegions() {
		for want, laid := range tilingsOf(r, allLaid(r)) {
			if rank := impl.RankOf(r, laid); rank != want {
				t.Fatal(r, laid, rank, want)
			}
		}
	}
}

func TestP82ListsThatAreNoTilingHaveNoRank(t *testing.T) {
	for _, f := range laidFields() {
		if rank := impl.RankOf(f.r, f.laid); isFull(f.r, f.laid) != (rank >= 0) || rank < -1 {
			t.Fatal(f, rank)
		}
	}
	for _, f := range wrongFields() {
		if rank := impl.RankOf(f.r, f.laid); rank != -1 {
			t.Error(f, rank)
		}
	}
}

func TestP10P82RanksOfTexts(t *testing.T) {
	for _, texts := range [][]string{
		{"."},
		{"....../......"},
		{"ew"},
		{"ewewew"},
		{"ew/ew", "ss/nn"},
		{"ews/ewn", "sew/new", "sss/nnn"},
		{"sew/n.s/ewn", "ews/s.n/new"},
		{"ew.ew/ew.ew", "ew.ss/ew.nn", "ss.ew/nn.ew", "ss.ss/nn.nn"},
		{"ew/ew/ew", "ss/nn/ew", "ew/ss/nn"},
	} {
		for rank, text := range texts {
			r, want, read := impl.ReadLaid(text)
			laid, ok := impl.TilingOf(r, rank)
			if !read || !ok || !slices.Equal(laid, want) || impl.RankOf(r, want) != rank {
				t.Error(text, rank, laid, impl.RankOf(r, want))
			}
		}
		r, _, _ := impl.ReadLaid(texts[0])
		if laid, ok := impl.TilingOf(r, len(texts)); ok || len(laid) != 0 {
			t.Error(texts, laid)
		}
	}
}
