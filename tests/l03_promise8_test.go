package tests

import (
	"fmt"
	"math"
	"slices"
	"testing"

	"loop.example/g01155/impl"
)

func TestPromise8Weights(t *testing.T) {
	for _, c := range []struct {
		w          []float64
		count, hop int64
		want       []float64
	}{
		{[]float64{1, 2}, 2, 1, []float64{1, 5, 4}}, {[]float64{1, 2}, 0, 1, nil}, {[]float64{1, 2}, 1, 2, []float64{1, 4}},
		{[]float64{1, -2, 3}, 3, 2, []float64{1, 4, 10, 4, 10, 4, 9}}, {[]float64{minus0, inf}, 2, 1, []float64{0, inf, inf}},
		{[]float64{nan, 1}, 2, 1, []float64{nan, nan, 1}}, {[]float64{0, 1e-170}, 2, 2, []float64{0, 0, 0, 0}},
		{[]float64{1e200, 1}, 2, 1, []float64{inf, inf, 1}},
	} {
		got, code := impl.WindowWeights(c.w, c.count, c.hop)
		wantReals(t, fmt.Sprint("WindowWeights ", c), got, code, c.want...)
	}
	for _, w := range oddWindows() {
		for hop := 1; hop <= len(w); hop++ {
			for _, count := range []int{0, 1, 2, 5, 64} {
				if count*hop+len(w) > impl.MaxSignal {
					continue
				}
				got, code := impl.WindowWeights(w, int64(count), int64(hop))
				wantReals(t, fmt.Sprintf("WindowWeights of %v, %d and %d", w, count, hop), got, code, toldWeights(w, count, hop)...)
			}
		}
	}
}

// TestPromise8WeightsInOrder has squares whose sum tells their order: the first
// block gives the last number of the window.
func TestPromise8WeightsInOrder(t *testing.T) {
	w := []float64{math.Ldexp(5, -29), math.Ldexp(5, -29), 1}
	got, code := impl.WindowWeights(w, 3, 1)
	small := math.Ldexp(25, -58)
	wantReals(t, "WindowWeights", got, code, small, 2*small, 1, 1, 1)
	slices.Reverse(w)
	got, code = impl.WindowWeights(w, 3, 1)
	wantReals(t, "WindowWeights", got, code, 1, 1, 1+math.Ldexp(1, -52), 2*small, small)
}

// TestPromise8BitsOfManyBlocks holds them against a program outside of this one.
func TestPromise8BitsOfManyBlocks(t *testing.T) {
	got := hashOf(func(yield func(string) bool) {
		for c := range eachCut {
			weights, _ := impl.WindowWeights(c.window(), int64(len(c.blocks())), c.hop)
			wideLines(yield, complexOf(weights))
		}
	})
	want(t, "hash of weights", got, 0xef1f4d7acf79108e)
	got = hashOf(func(yield func(string) bool) {
		for c := range eachCut {
			rebuilt, _ := impl.RebuildSignal(c.blocks(), c.window(), c.hop)
			wideLines(yield, rebuilt)
		}
	})
	want(t, "hash of rebuilt signals", got, 0x737c363867122978)
}

func TestPromise8RebuiltByTheRules(t *testing.T) {
	for _, x := range signalsToCut() {
		for _, size := range []int64{1, 2, 3, 8, 13, 64} {
			for _, hop := range someHops(size) {
				if !isCutRight(int64(len(x)), size, hop) {
					continue
				}
				for _, w := range [][]float64{toldWindow(impl.WdSine, size), oddWindow(int(size))} {
					blocks := toldBlocks(x, int(size), int(hop))
					got, code := impl.RebuildSignal(blocks, w, hop)
					wantSignal(t, fmt.Sprintf("RebuildSignal of %d numbers, size %d and hop %d", len(x), size, hop), got, code, toldRebuilt(blocks, w, int(hop))...)
				}
			}
		}
	}
	got, code := impl.RebuildSignal([][]complex128{{1, complex(2, -3), complex(-1, minus0)}}, []float64{0, 2, inf}, 3)
	wantSignal(t, "RebuildSignal by weights of any kind", got, code, complex(nan, nan), complex(1, -1.5), complex(nan, nan))
	got, code = impl.RebuildSignal([][]complex128{{1, complex(2, minus0)}}, []float64{1e-170, nan}, 1)
	wantSignal(t, "RebuildSignal by weights that are too small, and none", got, code, complex(inf, nan), complex(nan, nan))
}

// TestPromise8WindowedBlocksAreRebuilt holds each number against the one that
// has been cut: all blocks add it with the same sign, so nothing is lost but by
// rounding.
func TestPromise8WindowedBlocksAreRebuilt(t *testing.T) {
	for c := range eachCut {
		for _, x := range [][]complex128{ruledSignal(c.length), drawnNumbers(c.length)} {
			blocks, _ := impl.WindowedBlocks(x, c.window(), c.hop)
			got, code := impl.RebuildSignal(blocks, c.window(), c.hop)
			weights, _ := impl.WindowWeights(c.window(), int64(len(blocks)), c.hop)
			name := fmt.Sprintf("window %d of %d with the hop %d, %d numbers", c.kind, c.n, c.hop, c.length)
			want(t, name+": code", code, impl.OK)
			want(t, name+": places", len(got), len(weights))
			padded := append(slices.Clone(x), make([]complex128, max(0, len(got)-len(x)))...)
			for i, each := range got {
				if weights[i] == 0 {
					want(t, name+": no weight", math.IsNaN(real(each)) && math.IsNaN(imag(each)), true)
					continue
				}
				if !isRebuilt(real(each), real(padded[i]), len(blocks)) || !isRebuilt(imag(each), imag(padded[i]), len(blocks)) {
					t.Fatalf("%s: got %v at %d, want about %v", name, each, i, padded[i])
				}
			}
		}
	}
}

// isRebuilt allows for the roundings of each block, of its weight and of the
// division.
func isRebuilt(got, want float64, blocks int) bool {
	return math.Abs(got-want) <= math.Abs(want)*math.Ldexp(float64(blocks+4), -52)
}

func TestPromise8WeightErrors(t *testing.T) {
	w := slices.Repeat([]float64{1}, impl.MaxSignal+1)
	for _, c := range []struct {
		length       int
		count, hop   int64
		code, places int64
	}{
		{4, 0, 4, impl.OK, 0}, {4, 64, 4, impl.OK, 256}, {5, 64, 4, impl.ErrLimit, 0}, {193, 64, 1, impl.OK, 256}, {194, 64, 1, impl.ErrLimit, 0},
		{256, 1, 256, impl.OK, 256}, {256, 1, 1, impl.OK, 256}, {256, 2, 1, impl.ErrLimit, 0}, {1, 64, 1, impl.OK, 64}, {256, 0, 256, impl.OK, 0},
		{4, 65, 4, impl.ErrRange, 0}, {1, 65, 1, impl.ErrRange, 0}, {256, 65, 256, impl.ErrRange, 0}, {4, -1, 4, impl.ErrRange, 0},
		{4, 2, 5, impl.ErrRange, 0}, {4, 2, 0, impl.ErrRange, 0}, {256, 64, 257, impl.ErrRange, 0}, {4, 0, 5, impl.ErrRange, 0}, {4, 0, 0, impl.ErrRange, 0},
		{0, 0, 0, impl.ErrRange, 0}, {0, 0, 1, impl.ErrRange, 0}, {0, 2, 1, impl.ErrRange, 0},
		{257, 0, 1, impl.ErrLimit, 0}, {257, -1, 1, impl.ErrLimit, 0}, {257, 2, 0, impl.ErrLimit, 0}, {257, 2, 257, impl.ErrLimit, 0},
		{4, math.MaxInt64, 4, impl.ErrRange, 0}, {4, math.MinInt64, 4, impl.ErrRange, 0}, {4, math.MaxInt64, math.MaxInt64, impl.ErrRange, 0},
	} {
		got, code := impl.WindowWeights(w[:c.length], c.count, c.hop)
		want(t, fmt.Sprint("WindowWeights ", c), [2]int64{int64(len(got)), code}, [2]int64{c.places, c.code})
	}
}

func TestPromise8RebuildErrors(t *testing.T) {
	block, w := make([]complex128, 257), slices.Repeat([]float64{1}, 257)
	many := func(count, size int) [][]complex128 { return slices.Repeat([][]complex128{block[:size]}, count) }
	mixed := func(first, second int) [][]complex128 { return [][]complex128{block[:first], block[:second]} }
	for _, c := range []struct {
		name   string
		blocks [][]complex128
		length int
		hop    int64
		code   int64
	}{
		{"no blocks", nil, 4, 1, impl.OK}, {"no blocks", nil, 4, 4, impl.OK}, {"no blocks", nil, 4, 5, impl.ErrRange}, {"no blocks", nil, 4, 0, impl.ErrRange},
		{"no blocks", nil, 256, 256, impl.OK}, {"no blocks", nil, 0, 1, impl.ErrRange}, {"no blocks", nil, 0, 0, impl.ErrRange}, {"no blocks", nil, 257, 1, impl.ErrLimit},
		{"no blocks", nil, 257, 0, impl.ErrLimit},
		{"MaxFrames", many(64, 4), 4, 4, impl.OK}, {"beyond MaxFrames", many(65, 1), 1, 1, impl.ErrLimit}, {"beyond MaxFrames", many(65, 0), 2, 0, impl.ErrLimit},
		{"MaxSignal", many(1, 256), 256, 256, impl.OK}, {"MaxSignal", many(64, 193), 193, 1, impl.OK}, {"beyond MaxSignal", many(64, 194), 194, 1, impl.ErrLimit},
		{"beyond MaxSignal", many(2, 256), 256, 1, impl.ErrLimit}, {"beyond MaxSignal, another size", many(2, 256), 255, 1, impl.ErrRange},
		{"a long block", mixed(2, 257), 2, 1, impl.ErrLimit}, {"a long block", mixed(257, 257), 2, 1, impl.ErrLimit}, {"a long block", mixed(0, 257), 0, 0, impl.ErrLimit},
		{"a long window", many(2, 2), 257, 1, impl.ErrLimit}, {"a long window", mixed(2, 3), 257, 0, impl.ErrLimit}, {"both long", many(2, 257), 257, 1, impl.ErrLimit},
		{"another size", many(2, 2), 3, 1, impl.ErrRange}, {"another size", many(2, 3), 2, 1, impl.ErrRange}, {"another size", many(1, 3), 0, 1, impl.ErrRange},
		{"empty blocks", many(2, 0), 0, 0, impl.ErrRange}, {"empty blocks", many(2, 0), 0, 1, impl.ErrRange}, {"empty blocks", many(2, 0), 2, 1, impl.ErrRange},
		{"other sizes", mixed(2, 3), 2, 1, impl.ErrRange}, {"other sizes", mixed(2, 3), 3, 1, impl.ErrRange}, {"other sizes", mixed(256, 255), 256, 256, impl.ErrRange},
		{"hop", many(2, 2), 2, 3, impl.ErrRange}, {"hop", many(2, 2), 2, 0, impl.ErrRange}, {"hop", many(2, 256), 256, 257, impl.ErrRange}, {"hop", many(2, 2), 2, -1, impl.ErrRange},
	} {
		got, code := impl.RebuildSignal(c.blocks, w[:c.length], c.hop)
		name := fmt.Sprintf("RebuildSignal of %s by a window of %d with the hop %d", c.name, c.length, c.hop)
		want(t, name, code, c.code)
		want(t, name+": told", len(got) != 0, c.code == impl.OK && len(c.blocks) > 0)
	}
}
