package tests

import (
	"fmt"
	"math"
	"slices"
	"testing"

	"loop.example/g01155/impl"
)

// inBands cuts a list into two bands that can be joined.
func inBands[T any](list []T) ([]T, []T) {
	half := (len(list) + 1) / 2
	return list[:half], list[half:]
}

func TestPromise13HaarBandsByTheirRules(t *testing.T) {
	for x := range eachBankSignal {
		name := nameOf("", x, nil)
		low, high, code := impl.HaarSplit(x)
		toldLow, toldHigh := width(wide).haarSplit(x)
		wantSignal(t, "HaarSplit, low,"+name, low, code, toldLow...)
		wantSignal(t, "HaarSplit, high,"+name, high, code, toldHigh...)
		low, high = inBands(x)
		got, code := impl.HaarJoin(low, high)
		wantSignal(t, "HaarJoin"+name, got, code, width(wide).haarJoin(low, high)...)
	}
}

func TestPromise13NarrowHaarBandsByTheirRules(t *testing.T) {
	for x := range eachBankSignal {
		for _, by := range []complex128{1, complex(math.Ldexp(1, 925), 0), complex(0, math.Ldexp(1, -149)), 1e37} {
			list := narrowed(scaled(x, by))
			name := nameOf("", widened(list), nil)
			low, high, code := impl.NarrowHaarSplit(list)
			toldLow, toldHigh := width(narrow).haarSplit(widened(list))
			wantSignal(t, "NarrowHaarSplit, low,"+name, widened(low), code, toldLow...)
			wantSignal(t, "NarrowHaarSplit, high,"+name, widened(high), code, toldHigh...)
			low, high = inBands(list)
			got, code := impl.NarrowHaarJoin(low, high)
			wantSignal(t, "NarrowHaarJoin"+name, widened(got), code, width(narrow).haarJoin(widened(low), widened(high))...)
		}
	}
}

func TestPromise13HaarBands(t *testing.T) {
	z := complex(minus0, minus0)
	huge, tiny := complex(great, -great), complex(least, -3*least)
	for _, c := range []struct{ x, low, high []complex128 }{
		{nil, nil, nil}, {[]complex128{7i}, []complex128{7i}, nil}, {[]complex128{z}, []complex128{z}, nil}, {[]complex128{complex(nan, inf)}, []complex128{complex(nan, inf)}, nil},
		{[]complex128{1, 4i}, []complex128{0.5 + 2i}, []complex128{0.5 - 2i}}, {[]complex128{1, 4, z}, []complex128{2.5, z}, []complex128{-1.5}},
		{[]complex128{1, 4, 2, 3}, []complex128{2.5, 2.5}, []complex128{-1.5, -0.5}},
		{[]complex128{z, z}, []complex128{z}, []complex128{0}}, {[]complex128{z, 0}, []complex128{0}, []complex128{z}}, {[]complex128{0, z}, []complex128{0}, []complex128{0}},
		{[]complex128{huge, huge}, []complex128{complex(inf, -inf)}, []complex128{0}}, {[]complex128{huge, -huge}, []complex128{0}, []complex128{complex(inf, -inf)}},
		{[]complex128{tiny, 0}, []complex128{complex(0, -2*least)}, []complex128{complex(0, -2*least)}}, {[]complex128{0, tiny}, []complex128{complex(0, -2*least)}, []complex128{complex(minus0, 2*least)}},
		{[]complex128{complex(inf, 1), complex(inf, -inf)}, []complex128{complex(inf, -inf)}, []complex128{complex(nan, inf)}},
		{[]complex128{complex(nan, 1), 2}, []complex128{complex(nan, 0.5)}, []complex128{complex(nan, 0.5)}},
		{[]complex128{1 << 53, 1}, []complex128{1 << 52}, []complex128{1<<52 - 0.5}}, {[]complex128{1, 1 << 53}, []complex128{1 << 52}, []complex128{0.5 - 1<<52}},
	} {
		low, high, code := impl.HaarSplit(c.x)
		wantSignal(t, nameOf("HaarSplit, low,", c.x, nil), low, code, c.low...)
		wantSignal(t, nameOf("HaarSplit, high,", c.x, nil), high, code, c.high...)
	}
	for _, c := range []struct{ low, high, want []complex128 }{
		{nil, nil, nil}, {[]complex128{z}, nil, []complex128{z}}, {[]complex128{z}, []complex128{z}, []complex128{z, 0}}, {[]complex128{0}, []complex128{z}, []complex128{0, 0}},
		{[]complex128{2, z}, []complex128{3i}, []complex128{2 + 3i, 2 - 3i, z}}, {[]complex128{2, 5}, []complex128{3i, 1}, []complex128{2 + 3i, 2 - 3i, 6, 4}},
		{[]complex128{huge}, []complex128{huge}, []complex128{complex(inf, -inf), 0}}, {[]complex128{complex(inf, nan)}, []complex128{complex(inf, 1)}, []complex128{complex(inf, nan), complex(nan, nan)}},
	} {
		got, code := impl.HaarJoin(c.low, c.high)
		wantSignal(t, nameOf("HaarJoin", c.low, c.high), got, code, c.want...)
	}
}

// TestPromise13NarrowHaarBands has numbers that would be others if sums were
// wide ones on the way.
func TestPromise13NarrowHaarBands(t *testing.T) {
	big, zero := complex(float32(math.MaxFloat32), 0), complex(float32(minus0), float32(minus0))
	tiny := float32(math.SmallestNonzeroFloat32)
	for _, c := range []struct{ x, low, high []complex64 }{
		{nil, nil, nil}, {[]complex64{zero}, []complex64{zero}, nil}, {[]complex64{1, 4i, 5}, []complex64{0.5 + 2i, 5}, []complex64{0.5 - 2i}},
		{[]complex64{big, big}, []complex64{complex(float32(inf), 0)}, []complex64{0}}, {[]complex64{1<<24 + 2, 1}, []complex64{8388610}, []complex64{8388608}},
		{[]complex64{complex(tiny, -3*tiny), 0}, []complex64{complex(0, -2*tiny)}, []complex64{complex(0, -2*tiny)}}, {[]complex64{zero, zero}, []complex64{zero}, []complex64{0}},
		{[]complex64{0.1, 0.2}, []complex64{0.15}, []complex64{-0.05}},
	} {
		low, high, code := impl.NarrowHaarSplit(c.x)
		wantSignal(t, fmt.Sprint("NarrowHaarSplit, low, ", c.x), widened(low), code, widened(c.low)...)
		wantSignal(t, fmt.Sprint("NarrowHaarSplit, high, ", c.x), widened(high), code, widened(c.high)...)
	}
	for _, c := range []struct{ low, high, want []complex64 }{
		{nil, nil, nil}, {[]complex64{zero}, nil, []complex64{zero}}, {[]complex64{2, zero}, []complex64{3i}, []complex64{2 + 3i, 2 - 3i, zero}},
		{[]complex64{1 << 24}, []complex64{1}, []complex64{1 << 24, 1<<24 - 1}}, {[]complex64{1<<24 + 2}, []complex64{1}, []complex64{1<<24 + 4, 1 << 24}},
		{[]complex64{big}, []complex64{big}, []complex64{complex(float32(inf), 0), 0}},
	} {
		got, code := impl.NarrowHaarJoin(c.low, c.high)
		wantSignal(t, fmt.Sprint("NarrowHaarJoin ", c.low, c.high), widened(got), code, widened(c.want)...)
	}
}

func TestPromise13LiftedBandsByTheirRules(t *testing.T) {
	for x := range eachBankSignal {
		name := nameOf("", x, nil)
		low, high, code := impl.LiftSplit(x)
		toldLow, toldHigh := toldLiftSplit(x)
		wantSignal(t, "LiftSplit, low,"+name, low, code, toldLow...)
		wantSignal(t, "LiftSplit, high,"+name, high, code, toldHigh...)
		low, high = inBands(x)
		got, code := impl.LiftJoin(low, high)
		wantSignal(t, "LiftJoin"+name, got, code, toldLiftJoin(low, high)...)
	}
}

func TestPromise13LiftedBands(t *testing.T) {
	z := complex(minus0, minus0)
	huge := complex(great, 0)
	for _, c := range []struct{ x, low, high []complex128 }{
		{nil, nil, nil}, {[]complex128{7i}, []complex128{7i}, nil}, {[]complex128{z}, []complex128{z}, nil}, {[]complex128{complex(nan, inf)}, []complex128{complex(nan, inf)}, nil},
		{[]complex128{1, 4i}, []complex128{0.5 + 2i}, []complex128{-1 + 4i}}, {[]complex128{1, 5, 3}, []complex128{2.5, 4.5}, []complex128{3}},
		{[]complex128{1, 5, 3, 7}, []complex128{2.5, 4.75}, []complex128{3, 4}}, {[]complex128{1, 5, 3, 7, 5}, []complex128{2.5, 4.5, 6.5}, []complex128{3, 3}},
		{[]complex128{0, 0, 0, 8i, 0, 4, 0}, []complex128{0, 2i, 1 + 2i, 2}, []complex128{0, 8i, 4}},
		{[]complex128{z, z}, []complex128{0}, []complex128{0}}, {[]complex128{z, 0}, []complex128{0}, []complex128{0}}, {[]complex128{0, z}, []complex128{0}, []complex128{z}},
		{[]complex128{z, z, z}, []complex128{0, 0}, []complex128{0}}, {[]complex128{0, z, 0}, []complex128{0, 0}, []complex128{z}},
		{[]complex128{huge, 0, huge}, complexOf([]float64{-inf, -inf}), complexOf([]float64{-inf})},
		{[]complex128{huge, 0, -huge}, complexOf([]float64{great, -great}), []complex128{0}},
		{[]complex128{0, complex(inf, 1), 0, 1, 0}, []complex128{complex(inf, 0.5), complex(inf, 0.25), 0.5}, []complex128{complex(inf, 1), 1}},
		{[]complex128{complex(0, least), 0, complex(0, 2*least), 0}, []complex128{0, complex(0, least)}, []complex128{complex(0, -2*least), complex(0, -2*least)}},
	} {
		low, high, code := impl.LiftSplit(c.x)
		wantSignal(t, nameOf("LiftSplit, low,", c.x, nil), low, code, c.low...)
		wantSignal(t, nameOf("LiftSplit, high,", c.x, nil), high, code, c.high...)
	}
	for _, c := range []struct{ low, high, want []complex128 }{
		{nil, nil, nil}, {[]complex128{z}, nil, []complex128{z}}, {[]complex128{0.5 + 2i}, []complex128{-1 + 4i}, []complex128{1, 4i}},
		{[]complex128{2.5, 4.5}, []complex128{3}, []complex128{1, 5, 3}}, {[]complex128{2.5, 4.75}, []complex128{3, 4}, []complex128{1, 5, 3, 7}},
		{[]complex128{2.5, 4.5, 6.5}, []complex128{3, 3}, []complex128{1, 5, 3, 7, 5}}, {[]complex128{z}, []complex128{z}, []complex128{0, 0}},
		{[]complex128{z}, []complex128{0}, []complex128{z, 0}}, {[]complex128{z, z}, []complex128{0}, []complex128{z, 0, z}},
		{[]complex128{huge, huge}, []complex128{0}, complexOf([]float64{great, inf, great})}, {[]complex128{0, complex(nan, 1)}, []complex128{2}, []complex128{-1, complex(nan, 0.5), complex(nan, 1)}},
	} {
		got, code := impl.LiftJoin(c.low, c.high)
		wantSignal(t, nameOf("LiftJoin", c.low, c.high), got, code, c.want...)
	}
}

// TestPromise13BitsOfManyBands holds them against a program outside of this one.
func TestPromise13BitsOfManyBands(t *testing.T) {
	for _, c := range []struct {
		name              string
		split             func(x []complex128) ([]complex128, []complex128, int64)
		join              func(low, high []complex128) ([]complex128, int64)
		wantSplit, wantIn uint64
	}{
		{"Haar", impl.HaarSplit, impl.HaarJoin, 0x7da4fd1d6f0243dc, 0x57dabb5de3baadf7},
		{"Lift", impl.LiftSplit, impl.LiftJoin, 0x3fafaaa856535e3a, 0x5085fd919bb78adb},
	} {
		split := hashOfLists(func(x []complex128) [][]complex128 {
			low, high, _ := c.split(x)
			return [][]complex128{low, high}
		})
		want(t, "hash of bands: "+c.name, split, c.wantSplit)
		joined := hashOfLists(func(x []complex128) [][]complex128 {
			list, _ := c.join(inBands(x))
			return [][]complex128{list}
		})
		want(t, "hash of joined bands: "+c.name, joined, c.wantIn)
	}
	split := hashOf(func(yield func(string) bool) {
		for x := range eachBankSignal {
			low, high, _ := impl.NarrowHaarSplit(narrowed(x))
			narrowLines(yield, append(low, high...))
		}
	})
	want(t, "hash of narrow bands", split, 0xcf6d9273956f536b)
	joined := hashOf(func(yield func(string) bool) {
		for x := range eachBankSignal {
			list, _ := impl.NarrowHaarJoin(inBands(narrowed(x)))
			narrowLines(yield, list)
		}
	})
	want(t, "hash of joined narrow bands", joined, 0xae1667a35f09c20e)
}

func TestPromise13BandErrors(t *testing.T) {
	x := drawnNumbers(257)
	list := narrowed(x)
	for _, c := range []struct {
		low, high int
		code      int64
	}{
		{0, 0, impl.OK}, {1, 0, impl.OK}, {1, 1, impl.OK}, {2, 1, impl.OK}, {128, 128, impl.OK}, {128, 127, impl.OK},
		{0, 1, impl.ErrRange}, {2, 0, impl.ErrRange}, {1, 2, impl.ErrRange}, {3, 1, impl.ErrRange}, {5, 7, impl.ErrRange}, {256, 0, impl.ErrRange}, {0, 256, impl.ErrRange}, {200, 56, impl.ErrRange},
		{129, 128, impl.ErrLimit}, {128, 129, impl.ErrLimit}, {256, 256, impl.ErrLimit}, {256, 1, impl.ErrLimit}, {1, 256, impl.ErrLimit}, {200, 57, impl.ErrLimit}, {257, 0, impl.ErrLimit}, {0, 257, impl.ErrLimit},
	} {
		name := fmt.Sprint(" of ", c)
		for kind, join := range map[string]func(low, high []complex128) ([]complex128, int64){"HaarJoin": impl.HaarJoin, "LiftJoin": impl.LiftJoin} {
			got, code := join(x[:c.low], x[:c.high])
			wantCount(t, kind+name, got, code, c.low+c.high, c.code)
		}
		got, code := impl.NarrowHaarJoin(list[:c.low], list[:c.high])
		wantCount(t, "NarrowHaarJoin"+name, got, code, c.low+c.high, c.code)
	}
	for name, split := range map[string]func(x []complex128) ([]complex128, []complex128, int64){"HaarSplit": impl.HaarSplit, "LiftSplit": impl.LiftSplit} {
		low, high, code := split(x)
		wantCode(t, name+": low", low, code, impl.ErrLimit)
		wantCode(t, name+": high", high, code, impl.ErrLimit)
	}
	low, high, code := impl.NarrowHaarSplit(list)
	wantCode(t, "NarrowHaarSplit: low", low, code, impl.ErrLimit)
	wantCode(t, "NarrowHaarSplit: high", high, code, impl.ErrLimit)
}

// inTree cuts a signal into bands with the lengths of those of a tree.
func inTree(x []complex128, levels int64) [][]complex128 {
	lengths := []int{len(x)}
	for range levels {
		lengths = append([]int{(lengths[0] + 1) / 2, lengths[0] / 2}, lengths[1:]...)
	}
	var bands [][]complex128
	for _, length := range lengths {
		bands = append(bands, x[:length])
		x = x[length:]
	}
	return bands
}

func TestPromise13TreesByTheirRules(t *testing.T) {
	for x := range eachBankSignal {
		for _, kind := range bothKinds() {
			for levels := range int64(impl.MaxLevels + 1) {
				name := nameOf(fmt.Sprintf(" by %d and %d", kind, levels), x, nil)
				bands, code := impl.SplitTree(x, kind, levels)
				wantBlocks(t, "SplitTree"+name, bands, code, toldTree(x, kind, levels)...)
				others := inTree(x, levels)
				for k := range bands {
					want(t, "SplitTree"+name+": numbers of a band", len(bands[k]), len(others[k]))
				}
				got, code := impl.JoinTree(others, kind)
				wantSignal(t, "JoinTree"+name, got, code, toldJoinedTree(others, kind)...)
			}
		}
	}
}

func TestPromise13BitsOfManyTrees(t *testing.T) {
	eachTree := func(run func(x []complex128, kind, levels int64) [][]complex128) uint64 {
		return hashOfLists(func(x []complex128) [][]complex128 {
			var lists [][]complex128
			for _, kind := range bothKinds() {
				for levels := range int64(impl.MaxLevels + 1) {
					lists = append(lists, run(x, kind, levels)...)
				}
			}
			return lists
		})
	}
	split := eachTree(func(x []complex128, kind, levels int64) [][]complex128 {
		bands, _ := impl.SplitTree(x, kind, levels)
		return bands
	})
	want(t, "hash of trees", split, 0x65c5c924cc6aaba0)
	joined := eachTree(func(x []complex128, kind, levels int64) [][]complex128 {
		list, _ := impl.JoinTree(inTree(x, levels), kind)
		return [][]complex128{list}
	})
	want(t, "hash of joined trees", joined, 0x6d85bacf858072d2)
	bounds := hashOfLists(func(x []complex128) [][]complex128 {
		var list []complex128
		for levels := range int64(impl.MaxLevels + 1) {
			bound, _ := impl.BankBound(x, levels)
			list = append(list, complex(bound, 0))
		}
		return [][]complex128{list}
	})
	want(t, "hash of bounds", bounds, 0x4436993acba862c7)
}

func TestPromise13Trees(t *testing.T) {
	x := []complex128{8, 0, 4, 4, 1}
	bands, code := impl.SplitTree(x, impl.BkHaar, 0)
	wantBlocks(t, "SplitTree by 0 levels", bands, code, x)
	bands, code = impl.SplitTree(x, impl.BkHaar, 1)
	wantBlocks(t, "SplitTree by 1 level", bands, code, []complex128{4, 4, 1}, []complex128{4, 0})
	bands, code = impl.SplitTree(x, impl.BkHaar, 3)
	wantBlocks(t, "SplitTree by 3 levels", bands, code, []complex128{2.5}, []complex128{1.5}, []complex128{0}, []complex128{4, 0})
	bands, code = impl.SplitTree(x, impl.BkHaar, 6)
	wantBlocks(t, "SplitTree by 6 levels", bands, code, []complex128{2.5}, nil, nil, nil, []complex128{1.5}, []complex128{0}, []complex128{4, 0})
	bands, code = impl.SplitTree(nil, impl.BkLift, 6)
	wantBlocks(t, "SplitTree of nothing", bands, code, nil, nil, nil, nil, nil, nil, nil)
	bands, code = impl.SplitTree(x[:1], impl.BkLift, 2)
	wantBlocks(t, "SplitTree of one number", bands, code, x[:1], nil, nil)
	got, code := impl.JoinTree([][]complex128{{2}, {1}, {3i, 4}}, impl.BkHaar)
	wantSignal(t, "JoinTree", got, code, 3+3i, 3-3i, 5, -3)
	got, code = impl.JoinTree([][]complex128{{complex(minus0, nan)}}, impl.BkLift)
	wantSignal(t, "JoinTree of one band", got, code, complex(minus0, nan))
	got, code = impl.JoinTree(make([][]complex128, 7), impl.BkLift)
	wantSignal(t, "JoinTree of bands of nothing", got, code)
}

// kindsThatAreNone are no kinds of banks.
func kindsThatAreNone() []int64 {
	return []int64{0, 3, -1, 1<<32 + 1, math.MaxInt64, math.MinInt64}
}

func levelsThatAreNone() []int64 { return []int64{-1, 7, 8, 64, 1 << 32, math.MaxInt64, math.MinInt64} }

func TestPromise13SplitTreeErrors(t *testing.T) {
	x := drawnNumbers(257)
	check := func(kind, levels int64) {
		t.Helper()
		for _, count := range []int{0, 1, 256, 257} {
			expected := int64(impl.ErrRange)
			if count > impl.MaxSignal {
				expected = impl.ErrLimit
			}
			bands, code := impl.SplitTree(x[:count], kind, levels)
			wantCode(t, fmt.Sprintf("SplitTree of %d numbers by %d and %d", count, kind, levels), bands, code, expected)
		}
	}
	for _, kind := range kindsThatAreNone() {
		check(kind, 0)
		check(kind, 6)
		check(kind, 7)
	}
	for _, levels := range levelsThatAreNone() {
		check(impl.BkHaar, levels)
		check(impl.BkLift, levels)
	}
	for _, kind := range bothKinds() {
		bands, code := impl.SplitTree(x[:256], kind, 6)
		want(t, "SplitTree of MaxSignal numbers", [2]int64{int64(len(bands)), code}, [2]int64{7, impl.OK})
		bands, code = impl.SplitTree(x, kind, 6)
		wantCode(t, "SplitTree of one more", bands, code, impl.ErrLimit)
	}
}

func TestPromise13JoinTreeErrors(t *testing.T) {
	x := drawnNumbers(257)
	for _, c := range []struct {
		counts []int
		code   int64
	}{
		{nil, impl.ErrRange}, {[]int{0}, impl.OK}, {[]int{256}, impl.OK}, {[]int{257}, impl.ErrLimit}, {[]int{1, 0}, impl.OK}, {[]int{0, 1}, impl.ErrRange}, {[]int{2, 0}, impl.ErrRange},
		{[]int{2, 3}, impl.ErrRange}, {[]int{2, 2, 4, 8, 16, 32, 64}, impl.OK}, {[]int{4, 4, 8, 16, 32, 64, 128}, impl.OK}, {[]int{4, 4, 8, 16, 32, 64, 127}, impl.OK},
		{[]int{4, 4, 8, 16, 32, 64, 126}, impl.ErrRange}, {[]int{2, 2, 4, 8, 16, 32, 64, 128}, impl.ErrRange}, {make([]int, 7), impl.OK}, {make([]int, 8), impl.ErrRange},
		{make([]int, 64), impl.ErrRange}, {make([]int, 65), impl.ErrLimit}, {append(make([]int, 8), 257), impl.ErrLimit}, {append(make([]int, 8), 256), impl.ErrRange},
		{[]int{128, 128}, impl.OK}, {[]int{129, 128}, impl.ErrLimit}, {[]int{64, 64, 128}, impl.OK}, {[]int{65, 64, 129}, impl.ErrLimit}, {[]int{65, 64, 128}, impl.ErrLimit},
		// A band alone that is too long comes ahead of all.
		{[]int{2, 3, 257}, impl.ErrLimit}, {[]int{257, 1}, impl.ErrLimit},
		// Whichever comes first, level by level.
		{[]int{2, 3, 256}, impl.ErrRange}, {[]int{1, 1, 4, 256}, impl.ErrRange}, {[]int{129, 128, 1}, impl.ErrLimit}, {[]int{128, 128, 256, 3}, impl.ErrLimit}, {[]int{64, 64, 128, 256}, impl.ErrLimit},
		{[]int{1, 1, 2, 4, 9, 256}, impl.ErrRange}, {[]int{64, 64, 128, 1}, impl.ErrRange}, {[]int{64, 64, 127, 1}, impl.ErrRange},
		// Both at one level: bands that cannot be joined come ahead of those that
		// are too long together.
		{[]int{200, 100}, impl.ErrRange}, {[]int{100, 200}, impl.ErrRange}, {[]int{128, 129}, impl.ErrRange}, {[]int{130, 128}, impl.ErrRange}, {[]int{1, 256}, impl.ErrRange}, {[]int{256, 256}, impl.ErrLimit}, {[]int{256, 255}, impl.ErrLimit},
		{[]int{80, 80, 100}, impl.ErrRange}, {[]int{128, 128, 200}, impl.ErrRange}, {[]int{80, 80, 160}, impl.ErrLimit}, {[]int{80, 80, 159}, impl.ErrLimit}, {[]int{80, 80, 161}, impl.ErrRange}, {[]int{80, 80, 158}, impl.ErrRange},
		{[]int{70, 70, 140, 200}, impl.ErrLimit}, {[]int{70, 70, 138, 200}, impl.ErrRange}, {[]int{2, 2, 4, 8, 16, 32, 256}, impl.ErrRange}, {[]int{200, 100, 257}, impl.ErrLimit},
	} {
		var bands [][]complex128
		total := 0
		for _, count := range c.counts {
			bands = append(bands, x[:count])
			total += count
		}
		for _, kind := range bothKinds() {
			got, code := impl.JoinTree(bands, kind)
			wantCount(t, fmt.Sprint("JoinTree of ", c.counts), got, code, total, c.code)
		}
		for _, kind := range kindsThatAreNone() {
			expected := int64(impl.ErrRange)
			if len(c.counts) > impl.MaxFrames || slices.Contains(c.counts, 257) {
				expected = impl.ErrLimit
			}
			got, code := impl.JoinTree(bands, kind)
			wantCode(t, fmt.Sprint("JoinTree by ", kind, " of ", c.counts), got, code, expected)
		}
	}
}

func TestPromise13BankBounds(t *testing.T) {
	x := drawnNumbers(257)
	for _, c := range []struct {
		x      []complex128
		levels int64
		want   float64
	}{
		{nil, 0, 0}, {nil, 6, 0}, {[]complex128{1099511627776}, 1, 1}, {[]complex128{-3 - 4i, 5i}, 6, math.Ldexp(72, -40)}, {[]complex128{-3 - 4i}, 0, 0},
		{[]complex128{complex(1<<53, 1), 1}, 1, math.Ldexp(1, 13)}, {[]complex128{1 + 1i, 1 << 53}, 1, math.Ldexp(1, 13) + math.Ldexp(1, -39)},
		{[]complex128{complex(0, -inf)}, 1, inf}, {[]complex128{complex(0, -inf)}, 0, nan}, {[]complex128{complex(nan, 0)}, 2, nan}, {[]complex128{complex(minus0, minus0)}, 3, 0},
		{complexOf([]float64{great}), 2, inf}, {complexOf([]float64{great}), 1, great / 1099511627776}, {complexOf([]float64{least}), 6, 0}, {complexOf([]float64{math.Ldexp(least, 39)}), 6, 3 * least},
		{[]complex128{0.1 + 0.7i}, 3, 3 * (0.1 + float64(0.7)) / 1099511627776}, {x[:256], 6, toldBankBound(x[:256], 6)},
	} {
		bound, code := impl.BankBound(c.x, c.levels)
		name := nameOf(fmt.Sprintf("BankBound by %d", c.levels), c.x, nil)
		wantSameReal(t, name, bound, c.want)
		want(t, name+": code", code, impl.OK)
		wantSameReal(t, name, bound, toldBankBound(c.x, c.levels))
	}
	for _, levels := range append(levelsThatAreNone(), 0, 6) {
		bound, code := impl.BankBound(x, levels)
		wantSameReal(t, "BankBound of a long signal", bound, 0)
		want(t, "BankBound of a long signal", code, impl.ErrLimit)
		bound, code = impl.BankBound(x[:256], levels)
		isLevels := levels == 0 || levels == 6
		want(t, "BankBound: code is OK", code == impl.OK, isLevels)
		want(t, "BankBound: code is ErrRange", code == impl.ErrRange, !isLevels)
		want(t, "BankBound: something is told", bound != 0, levels == 6)
	}
}

// signalsToJoin have parts at the borders of what the guarantee speaks of.
func signalsToJoin(n int) [][]complex128 {
	top, bottom := math.Ldexp(1, 900), math.Ldexp(1, -900)
	list := [][]complex128{ruledSignal(n), drawnNumbers(n)}
	for _, parts := range [][]float64{
		{top}, {top, -top}, {bottom}, {bottom, -bottom, 0}, {top, bottom, 0, -bottom, -top, 1, -3}, {0, 0, 0, 0, 0, top}, {1, -1, 0.1}, {minus0, 0}, {bottom, 3 * bottom, -bottom * 1.7, top, top / 3, 1e-20, 0},
	} {
		x := make([]complex128, n)
		for i := range x {
			x[i] = complex(parts[i%len(parts)], parts[(i*i/2+1)%len(parts)])
		}
		list = append(list, x)
	}
	wild := drawnNumbers(n)
	for i, each := range wild {
		wild[i] = complex(math.Ldexp(1+math.Abs(imag(each)), i*509%800-400), math.Ldexp(-1-math.Abs(real(each)), i*373%800-400))
	}
	return append(list, wild)
}

func TestPromise13BandsAreJoinedWithinTheirBounds(t *testing.T) {
	for _, n := range bankLengths() {
		for i, x := range signalsToJoin(n) {
			for _, kind := range bothKinds() {
				for levels := range int64(impl.MaxLevels + 1) {
					bands, _ := impl.SplitTree(x, kind, levels)
					again, code := impl.JoinTree(bands, kind)
					want(t, "JoinTree: code", code, impl.OK)
					bound, _ := impl.BankBound(x, levels)
					wantNear(t, fmt.Sprintf("signal %d by %d and %d", i, kind, levels), again, x, bound)
				}
			}
		}
	}
}

func TestPromise13TwoBandsAreJoinedWithinTheirBounds(t *testing.T) {
	for _, n := range bankLengths() {
		for i, x := range signalsToJoin(n) {
			bound, _ := impl.BankBound(x, 1)
			low, high, _ := impl.HaarSplit(x)
			again, _ := impl.HaarJoin(low, high)
			wantNear(t, fmt.Sprintf("HaarJoin of signal %d", i), again, x, bound)
			low, high, _ = impl.LiftSplit(x)
			again, _ = impl.LiftJoin(low, high)
			wantNear(t, fmt.Sprintf("LiftJoin of signal %d", i), again, x, bound)
		}
	}
}

// TestPromise13SmallNumbersComeBack has numbers of which nothing is rounded.
func TestPromise13SmallNumbersComeBack(t *testing.T) {
	for _, n := range bankLengths() {
		x := make([]complex128, n)
		for i := range x {
			x[i] = complex(float64(i*i%37), float64(7-i%15))
		}
		for _, kind := range bothKinds() {
			for levels := range int64(impl.MaxLevels + 1) {
				bands, _ := impl.SplitTree(x, kind, levels)
				again, code := impl.JoinTree(bands, kind)
				wantSignal(t, fmt.Sprintf("%d numbers by %d and %d", n, kind, levels), again, code, x...)
			}
		}
		low, high, _ := impl.NarrowHaarSplit(narrowed(x))
		again, code := impl.NarrowHaarJoin(low, high)
		wantSignal(t, "narrow numbers", widened(again), code, x...)
	}
}
