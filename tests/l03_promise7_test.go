package tests

import (
	"fmt"
	"slices"
	"testing"

	"loop.example/g01155/impl"
)

func TestPromise7BlockCounts(t *testing.T) {
	for _, c := range []struct{ length, size, hop, count int64 }{
		{0, 4, 2, 0}, {1, 4, 2, 1}, {4, 4, 2, 1}, {5, 4, 2, 2}, {6, 4, 2, 2}, {7, 4, 2, 3}, {8, 4, 4, 2}, {9, 4, 4, 3}, {9, 4, 3, 3},
		{1, 1, 1, 1}, {256, 1, 1, 256}, {256, 2, 1, 255}, {256, 256, 1, 1}, {256, 255, 1, 2}, {256, 128, 128, 2}, {256, 127, 127, 3}, {0, 256, 256, 0},
	} {
		got, code := impl.BlockCount(c.length, c.size, c.hop)
		want(t, fmt.Sprint("BlockCount ", c), [2]int64{got, code}, [2]int64{c.count, impl.OK})
	}
	for length := range int64(impl.MaxSignal + 1) {
		for _, size := range []int64{1, 2, 3, 7, 16, 63, 64, 100, 255, 256} {
			for hop := int64(1); hop <= size; hop++ {
				got, _ := impl.BlockCount(length, size, hop)
				reached := got == 0 && length == 0 || got > 0 && (got-1)*hop+size >= length
				before := got > 1 && (got-2)*hop+size >= length || got == 1 && length == 0
				if !reached || before {
					t.Fatalf("BlockCount %d, %d, %d: got %d", length, size, hop, got)
				}
			}
		}
	}
}

func TestPromise7BlockErrors(t *testing.T) {
	for _, c := range []struct{ length, size, hop, code int64 }{
		{256, 256, 256, impl.OK}, {257, 4, 2, impl.ErrRange}, {-1, 4, 2, impl.ErrRange}, {5, 0, 0, impl.ErrRange}, {5, 0, 1, impl.ErrRange},
		{5, -1, 1, impl.ErrRange}, {5, 257, 1, impl.ErrRange}, {5, 4, 0, impl.ErrRange}, {5, 4, -2, impl.ErrRange}, {5, 4, 5, impl.ErrRange},
		{0, 4, 5, impl.ErrRange}, {0, 0, 1, impl.ErrRange}, {0, 4, 4, impl.OK}, {65, 1, 1, impl.OK}, {256, 1, 1, impl.OK},
	} {
		got, code := impl.BlockCount(c.length, c.size, c.hop)
		want(t, fmt.Sprint("BlockCount ", c), code, c.code)
		want(t, fmt.Sprint("BlockCount ", c), got != 0, c.code == impl.OK && c.length > 0)
	}
	for _, c := range []struct {
		length    int
		size, hop int64
		code      int64
	}{
		{64, 1, 1, impl.OK}, {65, 1, 1, impl.ErrLimit}, {256, 4, 4, impl.OK}, {192, 3, 3, impl.OK}, {193, 3, 3, impl.ErrLimit},
		{130, 4, 2, impl.OK}, {131, 4, 2, impl.ErrLimit}, {256, 193, 1, impl.OK}, {256, 192, 1, impl.ErrLimit}, {256, 256, 1, impl.OK},
		{256, 4, 5, impl.ErrRange}, {256, 1, 2, impl.ErrRange}, {256, 1, 0, impl.ErrRange}, {256, 0, 0, impl.ErrRange}, {0, 4, 5, impl.ErrRange},
		{257, 4, 4, impl.ErrLimit}, {257, 4, 5, impl.ErrLimit}, {257, 0, 0, impl.ErrLimit}, {257, 256, 256, impl.ErrLimit}, {0, 1, 1, impl.OK},
	} {
		x, w := make([]complex128, c.length), make([]float64, c.size)
		blocks, one := impl.BlocksOf(x, c.size, c.hop)
		windowed, two := impl.WindowedBlocks(x, w, c.hop)
		want(t, fmt.Sprint("blocks: codes ", c), [2]int64{one, two}, [2]int64{c.code, c.code})
		told := c.code == impl.OK && c.length > 0
		want(t, fmt.Sprint("blocks: told ", c), [2]bool{len(blocks) != 0, len(windowed) != 0}, [2]bool{told, told})
	}
	full, over := make([]complex128, 256), make([]float64, 257)
	for _, size := range []int64{-1, 257, 1 << 40} {
		blocks, code := impl.BlocksOf(full, size, 1)
		wantCode(t, "BlocksOf", blocks, code, impl.ErrRange)
	}
	for _, hop := range []int64{0, 1, 257, 258} {
		blocks, code := impl.WindowedBlocks(full, over, hop)
		wantCode(t, "WindowedBlocks by a long window", blocks, code, impl.ErrLimit)
		blocks, code = impl.WindowedBlocks(nil, over, hop)
		wantCode(t, "WindowedBlocks of nothing by a long window", blocks, code, impl.ErrLimit)
	}
}

// signalsToCut have lengths at the ends of blocks and around them.
func signalsToCut() [][]complex128 {
	var list [][]complex128
	for _, n := range []int{0, 1, 2, 3, 4, 5, 8, 9, 12, 13, 40, 63, 64, 65} {
		list = append(list, drawnNumbers(n), oddSignal(n, complex(minus0, nan), complex(inf, minus0), complex(minus0, -inf)))
	}
	return list
}

func TestPromise7Blocks(t *testing.T) {
	for _, x := range signalsToCut() {
		for _, size := range []int64{1, 2, 3, 4, 8, 13, 64} {
			for _, hop := range someHops(size) {
				if !isCutRight(int64(len(x)), size, hop) {
					continue
				}
				name := fmt.Sprintf("of %d numbers, size %d and hop %d", len(x), size, hop)
				blocks, code := impl.BlocksOf(x, size, hop)
				told := toldBlocks(x, int(size), int(hop))
				wantBlocks(t, "BlocksOf "+name, blocks, code, told...)
				count, _ := impl.BlockCount(int64(len(x)), size, hop)
				want(t, "BlockCount "+name, int(count), len(blocks))
				for _, w := range [][]float64{toldWindow(impl.WdBlackman, size), oddWindow(int(size))} {
					windowed, code := impl.WindowedBlocks(x, w, hop)
					wantBlocks(t, "WindowedBlocks "+name, windowed, code, toldAppliedBlocks(told, w)...)
				}
			}
		}
	}
}

func oddWindow(n int) []float64 {
	return slices.Repeat([]float64{-1, minus0, inf, 0, nan, 0.1, -inf, least}, n/8+1)[:n]
}

func TestPromise7BlocksAtTheEnd(t *testing.T) {
	x := []complex128{1, 2, 3, 4, 5, 6, 7}
	blocks, code := impl.BlocksOf(x[:6], 4, 2)
	wantBlocks(t, "a signal that ends at a block's end", blocks, code, x[:4], x[2:6])
	blocks, code = impl.BlocksOf(x, 4, 2)
	wantBlocks(t, "a signal that goes one place beyond", blocks, code, x[:4], x[2:6], []complex128{5, 6, 7, 0})
	blocks, code = impl.BlocksOf(x[:2], 4, 4)
	wantBlocks(t, "a signal within one block", blocks, code, []complex128{1, 2, 0, 0})
	windowed, code := impl.WindowedBlocks(x[:2], []float64{2, 3, -1, inf}, 4)
	wantBlocks(t, "zeros times a window", windowed, code, []complex128{2, 6, complex(minus0, minus0), complex(nan, nan)})
}

func TestPromise7OverlapAdd(t *testing.T) {
	for _, c := range []struct {
		blocks [][]complex128
		hop    int64
		want   []complex128
	}{
		{[][]complex128{{1, 2}, {3, 4}}, 1, []complex128{1, 5, 4}},
		{[][]complex128{{1, 2}, {3, 4}}, 2, []complex128{1, 2, 3, 4}},
		{[][]complex128{{1, 2, 3}}, 1, []complex128{1, 2, 3}},
		{[][]complex128{{1, 10, 100}, {1, 10, 100}, {1, 10, 100}}, 1, []complex128{1, 11, 111, 110, 100}},
		{[][]complex128{{complex(minus0, minus0), complex(minus0, 0)}, {complex(minus0, minus0), 0}}, 1,
			[]complex128{complex(minus0, minus0), complex(minus0, 0), 0}},
		{[][]complex128{{1, 1e16, 0}, {1, -1e16, 1e16}, {1, 1, 1}}, 1, []complex128{1, 1e16, -1e16 + 1, 1e16, 1}},
		{[][]complex128{{0, 1e16}, {1, 5}}, 1, []complex128{0, 1e16, 5}},
		{[][]complex128{{0, 0, 1}, {0, 1e16, 0}, {-1e16, 0, 0}}, 1, []complex128{0, 0, 0, 0, 0}},
		{[][]complex128{{0, 0, -1e16}, {0, 1e16, 0}, {1, 0, 0}}, 1, []complex128{0, 0, 1, 0, 0}},
		{[][]complex128{{complex(inf, 0), complex(1, inf)}, {complex(2, -inf), complex(nan, 0)}}, 1,
			[]complex128{complex(inf, 0), complex(3, nan), complex(nan, 0)}},
	} {
		got, code := impl.OverlapAdd(c.blocks, c.hop)
		wantSignal(t, fmt.Sprintf("OverlapAdd of %v with %d", c.blocks, c.hop), got, code, c.want...)
	}
	for _, x := range signalsToCut() {
		for _, size := range []int64{1, 2, 3, 8, 13, 64} {
			for _, hop := range someHops(size) {
				if isCutRight(int64(len(x)), size, hop) {
					blocks := toldAppliedBlocks(toldBlocks(x, int(size), int(hop)), toldWindow(impl.WdBlackman, size))
					got, code := impl.OverlapAdd(blocks, hop)
					wantSignal(t, "OverlapAdd", got, code, toldOverlap(blocks, int(hop))...)
				}
			}
		}
	}
}

// TestPromise7BitsOfManyBlocks holds them against a program outside of this one.
func TestPromise7BitsOfManyBlocks(t *testing.T) {
	cuts := 0
	for range eachCut {
		cuts++
	}
	want(t, "count of cuts", cuts, 1974)
	got := hashOf(func(yield func(string) bool) {
		for c := range eachCut {
			for _, block := range c.blocks() {
				wideLines(yield, block)
			}
		}
	})
	want(t, "hash of windowed blocks", got, 0xc752eadbb48ee691)
	got = hashOf(func(yield func(string) bool) {
		for c := range eachCut {
			added, _ := impl.OverlapAdd(c.blocks(), c.hop)
			wideLines(yield, added)
		}
	})
	want(t, "hash of added blocks", got, 0xb377014c2f92fd6c)
}

func TestPromise7OverlapAddErrors(t *testing.T) {
	block := make([]complex128, 257)
	blocks := func(sizes ...int) [][]complex128 {
		var list [][]complex128
		for _, size := range sizes {
			list = append(list, block[:size])
		}
		return list
	}
	many := func(count, size int) [][]complex128 { return slices.Repeat(blocks(size), count) }
	for _, c := range []struct {
		name   string
		blocks [][]complex128
		hop    int64
		code   int64
	}{
		{"no blocks", nil, 1, impl.OK}, {"no blocks", nil, 256, impl.OK}, {"no blocks", nil, 257, impl.ErrRange},
		{"no blocks", nil, 0, impl.ErrRange}, {"no blocks", nil, -1, impl.ErrRange},
		{"MaxFrames", many(64, 4), 4, impl.OK}, {"beyond MaxFrames", many(65, 1), 1, impl.ErrLimit}, {"beyond MaxFrames", many(65, 0), 0, impl.ErrLimit},
		{"MaxSignal", blocks(256), 1, impl.OK}, {"MaxSignal", blocks(256), 256, impl.OK}, {"MaxSignal", many(2, 128), 128, impl.OK},
		{"MaxSignal", many(64, 193), 1, impl.OK}, {"beyond MaxSignal", many(64, 194), 1, impl.ErrLimit}, {"beyond MaxSignal", many(2, 129), 128, impl.ErrLimit},
		{"beyond MaxSignal", many(2, 256), 1, impl.ErrLimit}, {"beyond MaxSignal", many(64, 5), 4, impl.ErrLimit},
		{"a long block", blocks(257), 1, impl.ErrLimit}, {"a long block", blocks(2, 257), 1, impl.ErrLimit}, {"a long block", blocks(0, 257), 0, impl.ErrLimit},
		{"a long block", blocks(257, 257), 300, impl.ErrLimit},
		{"empty blocks", blocks(0), 0, impl.ErrRange}, {"empty blocks", blocks(0, 0), 1, impl.ErrRange}, {"an empty block", blocks(2, 0), 1, impl.ErrRange},
		{"an empty block", blocks(0, 2), 1, impl.ErrRange}, {"other sizes", blocks(2, 3), 1, impl.ErrRange}, {"other sizes", blocks(3, 2), 1, impl.ErrRange},
		{"other sizes", blocks(3, 3, 2), 3, impl.ErrRange}, {"other sizes beyond MaxSignal", blocks(256, 255), 256, impl.ErrRange},
		{"hop", blocks(2, 2), 3, impl.ErrRange}, {"hop", blocks(2, 2), 0, impl.ErrRange}, {"hop", blocks(2), -1, impl.ErrRange},
		{"hop beyond MaxSignal", blocks(256, 256), 257, impl.ErrRange}, {"hop beyond MaxSignal", blocks(256, 256), 1 << 62, impl.ErrRange},
	} {
		got, code := impl.OverlapAdd(c.blocks, c.hop)
		name := fmt.Sprintf("OverlapAdd of %s with the hop %d", c.name, c.hop)
		want(t, name, code, c.code)
		want(t, name+": told", len(got) != 0, c.code == impl.OK && len(c.blocks) > 0)
	}
}

// addAll adds blocks one after the other, and tells what has been told and is
// left.
func addAll(t *testing.T, a impl.Adder, blocks [][]complex128) []complex128 {
	t.Helper()
	var told []complex128
	for _, block := range blocks {
		next, out, code := impl.AddBlock(a, block)
		want(t, "AddBlock: code", code, impl.OK)
		want(t, "AddBlock: told", int64(len(out)), a.Hop)
		want(t, "AddBlock: sizes", [3]int64{next.Size, next.Hop, int64(len(next.Tail))}, [3]int64{a.Size, a.Hop, a.Size - a.Hop})
		want(t, "ValidAdder", impl.ValidAdder(next), true)
		a, told = next, append(told, out...)
	}
	rest, code := impl.FinishAdder(a)
	want(t, "FinishAdder: code", code, impl.OK)
	return append(told, rest...)
}

func TestPromise7AddersTellWhatOverlapAddTells(t *testing.T) {
	for _, x := range signalsToCut() {
		for _, size := range []int64{1, 2, 3, 8, 13, 64} {
			for _, hop := range someHops(size) {
				if !isCutRight(int64(len(x)), size, hop) {
					continue
				}
				for _, w := range [][]float64{toldWindow(impl.WdHamming, size), oddWindow(int(size))} {
					blocks := toldAppliedBlocks(toldBlocks(x, int(size), int(hop)), w)
					a, code := impl.NewAdder(size, hop)
					want(t, "NewAdder: code", code, impl.OK)
					got := addAll(t, a, blocks)
					expected, code := impl.OverlapAdd(blocks, hop)
					name := fmt.Sprintf("%d numbers, size %d and hop %d", len(x), size, hop)
					wantSignal(t, name, got, code, expected...)
					wantSignal(t, name, got, code, toldOverlap(blocks, int(hop))...)
				}
			}
		}
	}
}

// TestPromise7AddersGoOn adds more blocks, and more numbers, than OverlapAdd may.
func TestPromise7AddersGoOn(t *testing.T) {
	block := drawnNumbers(8)
	blocks := slices.Repeat([][]complex128{block}, 200)
	a, _ := impl.NewAdder(8, 3)
	wantSignal(t, "200 blocks", addAll(t, a, blocks), impl.OK, toldOverlap(blocks, 3)...)
	long := slices.Repeat([][]complex128{drawnNumbers(impl.MaxSignal)}, 3)
	for _, hop := range []int64{1, 128, 255, 256} {
		a, _ = impl.NewAdder(impl.MaxSignal, hop)
		wantSignal(t, "blocks of 256 numbers", addAll(t, a, long), impl.OK, toldOverlap(long, int(hop))...)
	}
}

func TestPromise7AddBlock(t *testing.T) {
	for _, c := range []struct {
		hop               int64
		tail, block, told []complex128
		next              []complex128
	}{
		{2, nil, []complex128{1, 2, 3, 4}, []complex128{1, 2}, []complex128{3, 4}},
		{2, []complex128{10, 20}, []complex128{1, 2, 3, 4}, []complex128{11, 22}, []complex128{3, 4}},
		{1, []complex128{10, 20, 30}, []complex128{1, 2, 3, 4}, []complex128{11}, []complex128{22, 33, 4}},
		{3, []complex128{10}, []complex128{1, 2, 3, 4}, []complex128{11, 2, 3}, []complex128{4}},
		{4, nil, []complex128{1, 2, 3, 4}, []complex128{1, 2, 3, 4}, nil},
		{2, nil, []complex128{complex(minus0, minus0), 0, complex(minus0, 1), 4}, []complex128{complex(minus0, minus0), 0}, []complex128{complex(minus0, 1), 4}},
		{2, []complex128{complex(minus0, 0), complex(minus0, minus0)}, []complex128{complex(minus0, minus0), complex(minus0, minus0), 3, 4},
			[]complex128{complex(minus0, 0), complex(minus0, minus0)}, []complex128{3, 4}},
		{2, []complex128{complex(inf, 0), complex(nan, 1)}, []complex128{complex(-inf, 0), 1, complex(0, inf), complex(nan, minus0)},
			[]complex128{complex(nan, 0), complex(nan, 1)}, []complex128{complex(0, inf), complex(nan, minus0)}},
		{1, []complex128{1e16, 1e16, complex(minus0, minus0)}, []complex128{1, 3, complex(minus0, 0), complex(minus0, minus0)},
			[]complex128{1e16}, []complex128{1e16 + 4, complex(minus0, 0), complex(minus0, minus0)}},
	} {
		a := impl.Adder{Size: 4, Hop: c.hop, Tail: c.tail}
		next, told, code := impl.AddBlock(a, c.block)
		name := fmt.Sprintf("AddBlock %v to %v", c.block, a)
		wantSignal(t, name, told, code, c.told...)
		wantSignal(t, name+": Tail", next.Tail, code, c.next...)
		want(t, name+": sizes", [2]int64{next.Size, next.Hop}, [2]int64{4, c.hop})
		rest, code := impl.FinishAdder(a)
		wantSignal(t, fmt.Sprintf("FinishAdder %v", a), rest, code, c.tail...)
	}
}

func TestPromise7NewAdders(t *testing.T) {
	for _, c := range []struct{ size, hop, code int64 }{
		{1, 1, impl.OK}, {4, 1, impl.OK}, {4, 4, impl.OK}, {256, 1, impl.OK}, {256, 256, impl.OK},
		{0, 0, impl.ErrRange}, {0, 1, impl.ErrRange}, {-1, -1, impl.ErrRange}, {4, 0, impl.ErrRange}, {4, 5, impl.ErrRange}, {4, -1, impl.ErrRange},
		{257, 1, impl.ErrRange}, {257, 257, impl.ErrRange},
	} {
		a, code := impl.NewAdder(c.size, c.hop)
		want(t, fmt.Sprint("NewAdder ", c), code, c.code)
		expected := impl.Adder{}
		if c.code == impl.OK {
			expected = impl.Adder{Size: c.size, Hop: c.hop}
		}
		want(t, fmt.Sprint("NewAdder ", c), impl.SameAdder(a, expected), true)
	}
}

func TestPromise7ValidAdders(t *testing.T) {
	tail := make([]complex128, 300)
	full, over := make([]complex128, 256), make([]complex128, 257)
	for _, c := range []struct {
		size, hop int64
		tail      int
		isValid   bool
	}{
		{4, 2, 0, true}, {4, 2, 2, true}, {4, 2, 1, false}, {4, 2, 3, false}, {4, 2, 4, false}, {4, 1, 3, true}, {4, 1, 1, false},
		{4, 4, 0, true}, {4, 4, 1, false}, {4, 4, 4, false}, {1, 1, 0, true}, {1, 1, 1, false}, {256, 1, 255, true}, {256, 1, 256, false},
		{256, 256, 0, true}, {256, 256, 256, false}, {257, 1, 256, false}, {257, 257, 0, false}, {257, 1, 0, false},
		{0, 0, 0, false}, {0, 1, 0, false}, {4, 0, 0, false}, {4, 0, 4, false}, {4, 5, 0, false}, {4, -1, 5, false}, {-1, -2, 1, false},
		{4, 3, 300, false}, {300, 1, 299, false},
	} {
		a := impl.Adder{Size: c.size, Hop: c.hop, Tail: tail[:c.tail]}
		name := fmt.Sprintf("an adder with the size %d, the hop %d and a Tail of %d", c.size, c.hop, c.tail)
		want(t, name, impl.ValidAdder(a), c.isValid)
		rest, code := impl.FinishAdder(a)
		if c.isValid {
			want(t, name+": FinishAdder", [2]int64{int64(len(rest)), code}, [2]int64{int64(c.tail), impl.OK})
			wantAddBlockCode(t, a, tail[:c.size], impl.OK)
			wantAddBlockCode(t, a, tail[:c.size-1], impl.ErrRange)
			wantAddBlockCode(t, a, nil, impl.ErrRange)
		} else {
			wantCode(t, name+": FinishAdder", rest, code, impl.ErrInvalid)
			wantAddBlockCode(t, a, nil, impl.ErrInvalid)
			wantAddBlockCode(t, a, tail[:4], impl.ErrInvalid)
			wantAddBlockCode(t, a, full, impl.ErrInvalid)
		}
		wantAddBlockCode(t, a, over, impl.ErrLimit)
	}
	wantAddBlockCode(t, impl.Adder{Size: 4, Hop: 2}, tail[:5], impl.ErrRange)
	wantAddBlockCode(t, impl.Adder{Size: 255, Hop: 2}, full, impl.ErrRange)
}

func wantAddBlockCode(t *testing.T, a impl.Adder, block []complex128, code int64) {
	t.Helper()
	next, told, got := impl.AddBlock(a, block)
	name := fmt.Sprintf("AddBlock of %d numbers to %d, %d and a Tail of %d", len(block), a.Size, a.Hop, len(a.Tail))
	want(t, name, got, code)
	want(t, name+": told", len(told) != 0, code == impl.OK)
	if code != impl.OK {
		want(t, name+": the adder", impl.SameAdder(next, impl.Adder{}), true)
	}
}

func TestPromise7SameAdders(t *testing.T) {
	a := func(size, hop int64, tail ...complex128) impl.Adder {
		return impl.Adder{Size: size, Hop: hop, Tail: tail}
	}
	for _, c := range []struct {
		a, b impl.Adder
		same bool
	}{
		{a(4, 2), a(4, 2), true}, {a(4, 2), a(4, 3), false}, {a(4, 2), a(5, 2), false}, {a(2, 4), a(4, 2), false},
		{a(4, 2, 1, 2), a(4, 2, 1, 2), true}, {a(4, 2, 1, 2), a(4, 2, 1, 3), false}, {a(4, 2, 1, 2), a(4, 2, 2, 1), false},
		{a(4, 2, 1, 2), a(4, 2, 1), false}, {a(4, 2), a(4, 2, 0, 0), false}, {a(4, 2, 1), a(4, 2, 1, 2), false},
		{a(4, 3, complex(nan, inf)), a(4, 3, complex(otherNaN, inf)), true}, {a(4, 3, 0), a(4, 3, complex(minus0, 0)), false},
		{a(4, 3, 0), a(4, 3, complex(0, minus0)), false}, {a(4, 3, complex(nan, 0)), a(4, 3, 1), false},
		{impl.Adder{}, impl.Adder{}, true}, {a(-1, -7, 1, 2, 3), a(-1, -7, 1, 2, 3), true}, {a(-1, -7, 1, 2, 3), a(-1, -8, 1, 2, 3), false},
		{impl.Adder{Size: 4, Hop: 2, Tail: []complex128{}}, a(4, 2), true},
	} {
		want(t, fmt.Sprintf("SameAdder %v and %v", c.a, c.b), impl.SameAdder(c.a, c.b), c.same)
		want(t, fmt.Sprintf("SameAdder %v and %v", c.b, c.a), impl.SameAdder(c.b, c.a), c.same)
	}
}
