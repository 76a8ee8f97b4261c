package tests

import (
	"fmt"
	"math"
	"slices"
	"testing"

	"loop.example/g01155/impl"
)

func TestPromise13FoldWindows(t *testing.T) {
	for n := 2; n <= 128; n += 2 {
		w, code := impl.FoldWindow(int64(n))
		wantReals(t, fmt.Sprint("FoldWindow ", n), w, code, toldFoldWindow(n)...)
		for i := range n {
			if power := w[i]*w[i] + w[n+i]*w[n+i]; math.Abs(power-1) > 1e-15 {
				t.Errorf("FoldWindow %d: power %v at %d", n, power, i)
			}
			if angle := math.Pi * (float64(i) + 0.5) / float64(2*n); math.Abs(w[i]-math.Sin(angle)) > 1e-15 {
				t.Errorf("FoldWindow %d: %v at %d", n, w[i], i)
			}
			wantSameReal(t, "FoldWindow: its other half", w[2*n-1-i], w[i])
		}
	}
	w, code := impl.FoldWindow(2)
	want(t, "bits of FoldWindow 2", realBits(w), "3fd87de2a6aea963 3fed906bcf328d46 3fed906bcf328d46 3fd87de2a6aea963")
	want(t, "FoldWindow 2: code", code, impl.OK)
}

func foldSizesThatAreNone() []int64 {
	return []int64{0, 1, 3, 5, 127, 129, 130, 256, -1, -2, -128, 1 << 32, 1<<32 + 2, math.MaxInt64, math.MaxInt64 - 1, math.MinInt64, math.MinInt64 + 2}
}

func TestPromise13FoldsByTheirRules(t *testing.T) {
	for n := 2; n <= 128; n += 2 {
		for i := range bankSignals(n) {
			block, half := bankSignals(2 * n)[i], bankSignals(n)[i]
			got, code := impl.FoldBlock(block)
			wantSignal(t, nameOf("FoldBlock", block, nil), got, code, toldFold(block)...)
			got, code = impl.UnfoldBlock(half)
			wantSignal(t, nameOf("UnfoldBlock", half, nil), got, code, toldUnfold(half)...)
		}
	}
}

func TestPromise13Folds(t *testing.T) {
	z := complex(minus0, minus0)
	for _, c := range []struct{ block, want []complex128 }{
		{[]complex128{1, 10, 100, 1000i}, []complex128{complex(-100, -1000), -9}}, {[]complex128{1, 2, 3, 4, 5, 6, 7, 8}, []complex128{complex(-13, minus0), complex(-13, minus0), -3, -1}},
		{[]complex128{0, 0, 0, 0}, []complex128{z, 0}}, {[]complex128{z, z, z, z}, []complex128{0, 0}}, {[]complex128{z, 0, z, 0}, []complex128{0, z}}, {[]complex128{0, z, 0, z}, []complex128{0, 0}},
		{[]complex128{0, 0, 5, -5}, []complex128{complex(0, minus0), 0}}, {complexOf([]float64{inf, 1, nan, 2}), []complex128{complex(nan, minus0), complex(inf, 0)}},
		{complexOf([]float64{inf, inf, inf, inf}), []complex128{complex(-inf, minus0), complex(nan, 0)}}, {complexOf([]float64{great, -great, great, great}), []complex128{complex(-inf, minus0), complex(inf, 0)}},
	} {
		got, code := impl.FoldBlock(c.block)
		wantSignal(t, nameOf("FoldBlock", c.block, nil), got, code, c.want...)
	}
	for _, c := range []struct{ half, want []complex128 }{
		{[]complex128{1, 10i}, []complex128{10i, complex(minus0, -10), complex(-1, minus0), complex(-1, minus0)}},
		{[]complex128{1 + 1i, 2 + 1i, 3 + 1i, 4 + 1i}, []complex128{3 + 1i, 4 + 1i, -4 - 1i, -3 - 1i, -2 - 1i, -1 - 1i, -1 - 1i, -2 - 1i}},
		{[]complex128{z, 0}, []complex128{0, z, 0, 0}}, {[]complex128{complex(nan, inf), complex(-inf, minus0)}, []complex128{complex(-inf, minus0), complex(inf, 0), complex(nan, -inf), complex(nan, -inf)}},
	} {
		got, code := impl.UnfoldBlock(c.half)
		wantSignal(t, nameOf("UnfoldBlock", c.half, nil), got, code, c.want...)
	}
}

func TestPromise13FoldErrors(t *testing.T) {
	x := drawnNumbers(300)
	for count := range 301 {
		foldCode, unfoldCode := int64(impl.OK), int64(impl.OK)
		if count < 4 || count%4 != 0 {
			foldCode = impl.ErrRange
		}
		if count < 2 || count > 128 || count%2 != 0 {
			unfoldCode = impl.ErrRange
		}
		if count > impl.MaxSignal {
			foldCode, unfoldCode = impl.ErrLimit, impl.ErrLimit
		}
		got, code := impl.FoldBlock(x[:count])
		wantCount(t, fmt.Sprintf("FoldBlock of %d numbers", count), got, code, count/2, foldCode)
		got, code = impl.UnfoldBlock(x[:count])
		wantCount(t, fmt.Sprintf("UnfoldBlock of %d numbers", count), got, code, 2*count, unfoldCode)
	}
	for _, n := range foldSizesThatAreNone() {
		w, code := impl.FoldWindow(n)
		wantCode(t, fmt.Sprint("FoldWindow ", n), w, code, impl.ErrRange)
		for _, count := range []int{0, 1, 256, 257} {
			expected := int64(impl.ErrRange)
			if count > impl.MaxSignal {
				expected = impl.ErrLimit
			}
			list, code := impl.FoldSignal(x[:count], n)
			wantCode(t, fmt.Sprintf("FoldSignal of %d numbers by %d", count, n), list, code, expected)
			got, code := impl.UnfoldSignal([][]complex128{x[:2], x[:count]}, n, 0)
			wantCode(t, fmt.Sprintf("UnfoldSignal of %d numbers by %d", count, n), got, code, expected)
		}
		got, code := impl.UnfoldSignal(nil, n, 0)
		wantCode(t, fmt.Sprint("UnfoldSignal of nothing by ", n), got, code, impl.ErrRange)
	}
}

func TestPromise13FoldedSignalsByTheirRules(t *testing.T) {
	for _, length := range []int{0, 1, 2, 3, 4, 5, 7, 8, 9, 13, 31, 64, 65, 126} {
		for _, x := range bankSignals(length) {
			for _, n := range foldSizes() {
				name := nameOf(fmt.Sprintf("by %d", n), x, nil)
				list, code := impl.FoldSignal(x, int64(n))
				wantBlocks(t, "FoldSignal "+name, list, code, toldFoldSignal(x, n)...)
				for _, count := range []int{length, max(0, length-1), max(0, (len(list)-1)*n), 0} {
					got, code := impl.UnfoldSignal(list, int64(n), int64(count))
					wantSignal(t, fmt.Sprintf("UnfoldSignal, %d numbers, %s", count, name), got, code, toldUnfoldSignal(list, n, count)...)
				}
			}
		}
	}
}

// TestPromise13UnfoldedByTheirRules has blocks that are those of no signal.
func TestPromise13UnfoldedByTheirRules(t *testing.T) {
	for _, n := range []int{2, 4, 6, 32, 128} {
		for _, count := range []int{1, 2, 3, 5, 64} {
			var list [][]complex128
			for k := range count {
				list = append(list, bankSignals(n + k)[k%3][k:])
			}
			for _, length := range []int{0, 1, n - 1, n, n + 1, (count-1)*n - 1, (count - 1) * n} {
				if length < 0 || length > impl.MaxSignal || length > (count-1)*n {
					continue
				}
				got, code := impl.UnfoldSignal(list, int64(n), int64(length))
				name := fmt.Sprintf("UnfoldSignal of %d blocks by %d, %d numbers", count, n, length)
				wantSignal(t, name, got, code, toldUnfoldSignal(list, n, length)...)
			}
		}
	}
}

// TestPromise13BitsOfManyFolds holds them against a program outside of this one.
func TestPromise13BitsOfManyFolds(t *testing.T) {
	windows := hashOf(func(yield func(string) bool) {
		for n := int64(2); n <= 128; n += 2 {
			w, _ := impl.FoldWindow(n)
			wideLines(yield, complexOf(w))
		}
	})
	want(t, "hash of windows", windows, 0x45660ed35263e8f5)
	blocks := func(run func(x []complex128) ([]complex128, int64), times int) uint64 {
		return hashOf(func(yield func(string) bool) {
			for _, n := range foldSizes() {
				for _, x := range bankSignals(times * n) {
					list, _ := run(x)
					wideLines(yield, list)
				}
			}
		})
	}
	want(t, "hash of folded blocks", blocks(impl.FoldBlock, 2), 0x1cd4fc10e3cae9b7)
	want(t, "hash of unfolded blocks", blocks(impl.UnfoldBlock, 1), 0x880adca1308b3f19)
	folded := hashOfLists(func(x []complex128) [][]complex128 {
		var lists [][]complex128
		for _, n := range foldSizes() {
			list, _ := impl.FoldSignal(x, int64(n))
			lists = append(lists, list...)
		}
		return lists
	})
	want(t, "hash of folded signals", folded, 0x57355755510107ad)
	unfolded := hashOfLists(func(x []complex128) [][]complex128 {
		var lists [][]complex128
		for _, n := range foldSizes() {
			list, _ := impl.FoldSignal(x, int64(n))
			again, _ := impl.UnfoldSignal(list, int64(n), int64(len(x)))
			lists = append(lists, again)
		}
		return lists
	})
	want(t, "hash of unfolded signals", unfolded, 0xb4061fcb841a6248)
}

func TestPromise13CountsOfFoldedBlocks(t *testing.T) {
	x := drawnNumbers(257)
	for _, c := range []struct {
		length, n, count int
		code             int64
	}{
		{0, 2, 0, impl.OK}, {0, 128, 0, impl.OK}, {1, 2, 2, impl.OK}, {2, 2, 2, impl.OK}, {3, 2, 3, impl.OK}, {4, 2, 3, impl.OK}, {125, 2, 64, impl.OK}, {126, 2, 64, impl.OK},
		{127, 2, 0, impl.ErrLimit}, {128, 2, 0, impl.ErrLimit}, {252, 4, 64, impl.OK}, {253, 4, 0, impl.ErrLimit}, {256, 4, 0, impl.ErrLimit}, {256, 6, 44, impl.OK},
		{1, 128, 2, impl.OK}, {128, 128, 2, impl.OK}, {129, 128, 3, impl.OK}, {256, 128, 3, impl.OK}, {257, 128, 0, impl.ErrLimit}, {257, 3, 0, impl.ErrLimit}, {257, 2, 0, impl.ErrLimit},
		{256, 3, 0, impl.ErrRange}, {256, 130, 0, impl.ErrRange}, {256, 0, 0, impl.ErrRange}, {0, 7, 0, impl.ErrRange},
	} {
		list, code := impl.FoldSignal(x[:c.length], int64(c.n))
		wantCount(t, fmt.Sprint("FoldSignal ", c), list, code, c.count, c.code)
		for _, block := range list {
			want(t, "numbers of a folded block", len(block), c.n)
		}
	}
}

func TestPromise13UnfoldErrors(t *testing.T) {
	x := drawnNumbers(257)
	many := func(count, size int) [][]complex128 { return slices.Repeat([][]complex128{x[:size]}, count) }
	for _, c := range []struct {
		name      string
		list      [][]complex128
		n, length int64
		code      int64
	}{
		{"none", nil, 2, 0, impl.OK}, {"none", [][]complex128{}, 128, 0, impl.OK}, {"none", nil, 2, 1, impl.ErrRange}, {"none", nil, 2, -1, impl.ErrRange}, {"none", nil, 2, 257, impl.ErrRange}, {"none", nil, 3, 0, impl.ErrRange},
		{"one", many(1, 2), 2, 0, impl.OK}, {"one", many(1, 2), 2, 1, impl.ErrRange}, {"one", many(1, 2), 2, -1, impl.ErrRange},
		{"two", many(2, 2), 2, 2, impl.OK}, {"two", many(2, 2), 2, 3, impl.ErrRange}, {"two", many(2, 2), 2, 0, impl.OK}, {"two", many(2, 2), 2, math.MaxInt64, impl.ErrRange}, {"two", many(2, 2), 2, math.MinInt64, impl.ErrRange},
		{"full", many(3, 128), 128, 256, impl.OK}, {"beyond", many(4, 128), 128, 257, impl.ErrLimit}, {"beyond", many(4, 128), 128, 384, impl.ErrLimit}, {"beyond all", many(4, 128), 128, 385, impl.ErrRange}, {"one more", many(3, 128), 128, 257, impl.ErrRange},
		{"long, but not asked for", many(64, 128), 128, 256, impl.OK}, {"long, but not asked for", many(64, 128), 128, 0, impl.OK}, {"long", many(64, 128), 128, 63 * 128, impl.ErrLimit}, {"long", many(64, 128), 128, 63*128 + 1, impl.ErrRange},
		{"MaxFrames", many(64, 2), 2, 126, impl.OK}, {"MaxFrames", many(64, 2), 2, 127, impl.ErrRange}, {"beyond MaxFrames", many(65, 2), 2, 0, impl.ErrLimit}, {"beyond MaxFrames", many(65, 3), 2, -1, impl.ErrLimit}, {"beyond MaxFrames", many(65, 0), 3, 0, impl.ErrLimit},
		{"other sizes", many(2, 4), 2, 0, impl.ErrRange}, {"other sizes", many(2, 2), 4, 0, impl.ErrRange}, {"other sizes", append(many(1, 4), x[:2]), 4, 0, impl.ErrRange}, {"other sizes", append(many(3, 4), nil), 4, 0, impl.ErrRange}, {"other sizes", append(many(3, 128), x[:256]), 128, 300, impl.ErrRange},
		{"a long one", append(many(2, 2), x), 2, 0, impl.ErrLimit}, {"a long one", append(many(2, 2), x), 3, -1, impl.ErrLimit}, {"a long one", append(many(2, 2), x), 2, 1000, impl.ErrLimit}, {"empty ones", many(3, 0), 2, 0, impl.ErrRange},
	} {
		got, code := impl.UnfoldSignal(c.list, c.n, c.length)
		wantCount(t, fmt.Sprintf("UnfoldSignal: %s by %d, %d numbers", c.name, c.n, c.length), got, code, int(c.length), c.code)
	}
}

func TestPromise13FoldedSignalsComeBackWithinTheirBounds(t *testing.T) {
	for _, length := range bankLengths() {
		for i, x := range signalsToJoin(length) {
			for _, n := range foldSizes() {
				list, code := impl.FoldSignal(x, int64(n))
				if code != impl.OK {
					want(t, "more than MaxFrames blocks", (length+n-1)/n+1 > impl.MaxFrames, true)
					continue
				}
				again, code := impl.UnfoldSignal(list, int64(n), int64(length))
				want(t, "UnfoldSignal: code", code, impl.OK)
				bound, _ := impl.BankBound(x, 1)
				wantNear(t, fmt.Sprintf("signal %d folded by %d", i, n), again, x, bound)
			}
		}
	}
}
