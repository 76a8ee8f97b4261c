package tests

import (
	"fmt"
	"math"
	"testing"

	"loop.example/g01155/impl"
)

// What the document tells of windows, made once more and step by step, each
// step rounded from its exact result.

func allKinds() []int64 {
	return []int64{impl.WdRect, impl.WdTriangle, impl.WdHann, impl.WdHamming, impl.WdSine, impl.WdBlackman}
}

func toldWindow(kind, n int64) []float64 {
	var w []float64
	for i := range n {
		once, twice := real(toldTurn(n, i)), real(toldTurn(n, 2*i%n))
		hann := sum(0.5, -product(0.5, once))
		switch kind {
		case impl.WdRect:
			w = append(w, 1)
		case impl.WdTriangle:
			w = append(w, sum(1, -math.Abs(sum(quotient(float64(2*i), float64(n)), -1))))
		case impl.WdHann:
			w = append(w, hann)
		case impl.WdHamming:
			w = append(w, sum(0.54, -product(0.46, once)))
		case impl.WdSine:
			w = append(w, math.Sqrt(hann))
		case impl.WdBlackman:
			w = append(w, sum(sum(0.42, -product(0.5, once)), product(0.08, twice)))
		}
	}
	return w
}

func toldApplied(x []complex128, w []float64) []complex128 {
	var list []complex128
	for i := range x {
		list = append(list, complex(product(real(x[i]), w[i]), product(imag(x[i]), w[i])))
	}
	return list
}

func toldSum(terms []float64) float64 {
	total := terms[0]
	for _, term := range terms[1:] {
		total = sum(total, term)
	}
	return total
}

// toldOverlap gathers what stands at each place before it adds anything.
func toldOverlap(blocks [][]complex128, hop int) []complex128 {
	var first, second [][]float64
	for k, block := range blocks {
		for i, each := range block {
			for len(first) <= k*hop+i {
				first, second = append(first, nil), append(second, nil)
			}
			first[k*hop+i] = append(first[k*hop+i], real(each))
			second[k*hop+i] = append(second[k*hop+i], imag(each))
		}
	}
	var list []complex128
	for place := range first {
		list = append(list, complex(toldSum(first[place]), toldSum(second[place])))
	}
	return list
}

func toldWeights(w []float64, count, hop int) []float64 {
	var square []complex128
	for _, each := range w {
		square = append(square, complex(product(each, each), 0))
	}
	blocks := make([][]complex128, count)
	for k := range blocks {
		blocks[k] = square
	}
	weights, _ := partsOf(toldOverlap(blocks, hop))
	return weights
}

func toldBlocks(x []complex128, size, hop int) [][]complex128 {
	var blocks [][]complex128
	for from := 0; len(x) > 0; from += hop {
		block := make([]complex128, size)
		for i := range block {
			if from+i < len(x) {
				block[i] = x[from+i]
			}
		}
		blocks = append(blocks, block)
		if from+size >= len(x) {
			break
		}
	}
	return blocks
}

func toldAppliedBlocks(blocks [][]complex128, w []float64) [][]complex128 {
	var list [][]complex128
	for _, block := range blocks {
		list = append(list, toldApplied(block, w))
	}
	return list
}

func toldRebuilt(blocks [][]complex128, w []float64, hop int) []complex128 {
	var list []complex128
	weights := toldWeights(w, len(blocks), hop)
	for i, each := range toldOverlap(toldAppliedBlocks(blocks, w), hop) {
		list = append(list, complex(quotient(real(each), weights[i]), quotient(imag(each), weights[i])))
	}
	return list
}

func wantReals(t *testing.T, name string, got []float64, code int64, want ...float64) {
	t.Helper()
	wantSignal(t, name, complexOf(got), code, complexOf(want)...)
}

func wantBlocks(t *testing.T, name string, got [][]complex128, code int64, expected ...[]complex128) {
	t.Helper()
	want(t, name+": count of blocks", len(got), len(expected))
	for k := 0; k < len(got) && k < len(expected); k++ {
		wantSignal(t, fmt.Sprintf("%s: block %d", name, k), got[k], code, expected[k]...)
	}
	want(t, name+": code", code, impl.OK)
}

// someHops has the least hops of a size, the greatest ones and one between.
func someHops(size int64) []int64 {
	var hops []int64
	for hop := int64(1); hop <= size; hop++ {
		if hop <= 5 || hop >= size-3 || hop == size/2 {
			hops = append(hops, hop)
		}
	}
	return hops
}

// isCutRight reports whether a signal cut so has not too many blocks or places.
func isCutRight(length, size, hop int64) bool {
	count := int64(0)
	for reached := int64(0); reached < length; count++ {
		reached = count*hop + size
	}
	return count <= impl.MaxFrames && (count == 0 || (count-1)*hop+size <= impl.MaxSignal)
}

// cutCase is a signal of a length that is cut by a window.
type cutCase struct {
	kind, n, hop int64
	length       int
}

func (c cutCase) window() []float64 {
	w, _ := impl.WindowOf(c.kind, c.n)
	return w
}

func (c cutCase) blocks() [][]complex128 {
	blocks, _ := impl.WindowedBlocks(ruledSignal(c.length), c.window(), c.hop)
	return blocks
}

// eachCut goes through cuts in the order of a program outside of this one.
func eachCut(yield func(c cutCase) bool) {
	for _, kind := range allKinds() {
		for _, n := range []int64{1, 2, 3, 5, 8, 31, 64} {
			for _, hop := range someHops(n) {
				for _, length := range []int{0, 1, 2, 3, 7, 30, 64, 100, 200} {
					if isCutRight(int64(length), n, hop) && !yield(cutCase{kind, n, hop, length}) {
						return
					}
				}
			}
		}
	}
}
