package tests

import "loop.example/g01155/impl"

// What the document tells of banks, made once more and step by step, each step
// rounded from its exact result.

func toldDecimated(x []complex128, m, phase int) []complex128 {
	var list []complex128
	for place, each := range x {
		if place >= phase && (place-phase)%m == 0 {
			list = append(list, each)
		}
	}
	return list
}

func toldExpanded(x []complex128, m int) []complex128 {
	var list []complex128
	for _, each := range x {
		list = append(append(list, each), make([]complex128, m-1)...)
	}
	return list
}

func toldParts(x []complex128, m int) [][]complex128 {
	var parts [][]complex128
	for phase := range m {
		parts = append(parts, toldDecimated(x, m, phase))
	}
	return parts
}

func toldExpandFiltered(x, h []complex128, m int) []complex128 {
	var list []complex128
	for n := range len(x)*m + len(h) - 1 {
		var terms []complex128
		for k := range h {
			if n >= k && (n-k)%m == 0 && (n-k)/m < len(x) {
				terms = append(terms, toldProduct(h[k], x[(n-k)/m]))
			}
		}
		list = append(list, width(wide).total(terms))
	}
	if len(x) == 0 || len(h) == 0 {
		return nil
	}
	return list
}

func plus(x, y complex128) complex128 {
	return complex(sum(real(x), real(y)), sum(imag(x), imag(y)))
}

func less(x, y complex128) complex128 { return plus(x, complex(-real(y), -imag(y))) }

func timesReal(x complex128, by float64) complex128 {
	return complex(product(real(x), by), product(imag(x), by))
}

func (w width) haarSplit(x []complex128) ([]complex128, []complex128) {
	var low, high []complex128
	for i := 0; i < len(x); i += 2 {
		if i+1 == len(x) {
			low = append(low, x[i])
			break
		}
		low = append(low, w(timesReal(w(plus(x[i], x[i+1])), 0.5)))
		high = append(high, w(timesReal(w(less(x[i], x[i+1])), 0.5)))
	}
	return low, high
}

func (w width) haarJoin(low, high []complex128) []complex128 {
	var list []complex128
	for i, each := range low {
		if i < len(high) {
			list = append(list, w(plus(each, high[i])), w(less(each, high[i])))
		} else {
			list = append(list, each)
		}
	}
	return list
}

// lifting is what is added to the low number with the index i, if anything is.
func lifting(high []complex128, i int) (complex128, bool) {
	isBefore, isBehind := i > 0, i < len(high)
	switch {
	case isBefore && isBehind:
		return timesReal(plus(high[i-1], high[i]), 0.25), true
	case isBefore:
		return timesReal(high[i-1], 0.5), true
	case isBehind:
		return timesReal(high[i], 0.5), true
	}
	return 0, false
}

func toldLiftSplit(x []complex128) ([]complex128, []complex128) {
	var low, high []complex128
	for i := range len(x) / 2 {
		if 2*i+2 < len(x) {
			high = append(high, less(x[2*i+1], timesReal(plus(x[2*i], x[2*i+2]), 0.5)))
		} else {
			high = append(high, less(x[2*i+1], x[2*i]))
		}
	}
	for i := range (len(x) + 1) / 2 {
		low = append(low, x[2*i])
		if more, ok := lifting(high, i); ok {
			low[i] = plus(low[i], more)
		}
	}
	return low, high
}

func toldLiftJoin(low, high []complex128) []complex128 {
	list := make([]complex128, len(low)+len(high))
	for i, each := range low {
		list[2*i] = each
		if more, ok := lifting(high, i); ok {
			list[2*i] = less(each, more)
		}
	}
	for i, each := range high {
		if 2*i+2 < len(list) {
			list[2*i+1] = plus(each, timesReal(plus(list[2*i], list[2*i+2]), 0.5))
		} else {
			list[2*i+1] = plus(each, list[2*i])
		}
	}
	return list
}

func bothKinds() []int64 { return []int64{impl.BkHaar, impl.BkLift} }

func toldSplit(x []complex128, kind int64) ([]complex128, []complex128) {
	if kind == impl.BkHaar {
		return width(wide).haarSplit(x)
	}
	return toldLiftSplit(x)
}

func toldTree(x []complex128, kind, levels int64) [][]complex128 {
	var highs [][]complex128
	low := x
	for range levels {
		var high []complex128
		low, high = toldSplit(low, kind)
		highs = append([][]complex128{high}, highs...)
	}
	return append([][]complex128{low}, highs...)
}

func toldJoinedTree(bands [][]complex128, kind int64) []complex128 {
	low := bands[0]
	for _, high := range bands[1:] {
		if kind == impl.BkHaar {
			low = width(wide).haarJoin(low, high)
		} else {
			low = toldLiftJoin(low, high)
		}
	}
	return low
}

func toldBankBound(x []complex128, levels int64) float64 {
	return quotient(product(toldSizes(x), float64(levels)), 1099511627776)
}

func toldFrames(x []complex128, w []float64, hop int) [][]complex128 {
	var frames [][]complex128
	for _, block := range toldAppliedBlocks(toldBlocks(x, len(w), hop), w) {
		frames = append(frames, width(wide).fast(block))
	}
	return frames
}

func toldSynthesised(frames [][]complex128, w []float64, hop int) []complex128 {
	var blocks [][]complex128
	for _, frame := range frames {
		blocks = append(blocks, width(wide).back(frame))
	}
	return toldRebuilt(blocks, w, hop)
}

func toldFoldWindow(n int) []float64 {
	var w []float64
	for i := range 2 * n {
		w = append(w, imag(toldTurn(int64(8*n), int64(2*i+1))))
	}
	return w
}

// toldFold finds the numbers of the quarters by their places: the last number
// of c is the one before d.
func toldFold(block []complex128) []complex128 {
	q := len(block) / 4
	list := make([]complex128, 2*q)
	for i := range q {
		c, d := block[3*q-1-i], block[3*q+i]
		list[i] = less(complex(-real(c), -imag(c)), d)
		list[q+i] = less(block[i], block[2*q-1-i])
	}
	return list
}

func toldUnfold(half []complex128) []complex128 {
	n := len(half)
	list := make([]complex128, 2*n)
	for i, each := range half {
		against := complex(-real(each), -imag(each))
		if i < n/2 {
			list[3*n/2-1-i], list[3*n/2+i] = against, against
		} else {
			list[i-n/2], list[3*n/2-1-i] = each, against
		}
	}
	return list
}

func toldFoldSignal(x []complex128, n int) [][]complex128 {
	var list [][]complex128
	for from := -n; len(x) > 0 && from < len(x); from += n {
		block := make([]complex128, 2*n)
		for i := range block {
			if from+i >= 0 && from+i < len(x) {
				block[i] = x[from+i]
			}
		}
		list = append(list, toldFold(toldApplied(block, toldFoldWindow(n))))
	}
	return list
}

func toldUnfoldSignal(list [][]complex128, n, length int) []complex128 {
	var blocks [][]complex128
	for _, half := range list {
		blocks = append(blocks, toldApplied(toldUnfold(half), toldFoldWindow(n)))
	}
	if length == 0 {
		return nil
	}
	return toldOverlap(blocks, n)[n : n+length]
}

// tinySignal has numbers whose halves are rounded, as they are too small.
func tinySignal(n int) []complex128 {
	x := make([]complex128, n)
	for j := range x {
		x[j] = complex(float64((j*7+3)%11-5)*least, float64((j*5+1)%13-6)*least)
	}
	return x
}

// bankSignals are signals of a length in the order of a program outside of this
// one.
func bankSignals(n int) [][]complex128 {
	return [][]complex128{ruledSignal(n), brokenSignal(n), tinySignal(n)}
}

// bankLengths are, as foldSizes and stepCounts, those of a program outside of
// this one.
func bankLengths() []int {
	var list []int
	for n := range 41 {
		list = append(list, n)
	}
	return append(list, 63, 64, 65, 127, 128, 129, 255, 256)
}

func foldSizes() []int { return []int{2, 4, 6, 8, 10, 14, 30, 32, 64, 100, 126, 128} }

func stepCounts() []int { return []int{1, 2, 3, 4, 5, 7, 31, 63, 64} }

// eachBankSignal goes through all signals of all lengths.
func eachBankSignal(yield func(x []complex128) bool) {
	for _, n := range bankLengths() {
		for _, x := range bankSignals(n) {
			if !yield(x) {
				return
			}
		}
	}
}

// hashOfLists is the hash of what is made of each signal.
func hashOfLists(make func(x []complex128) [][]complex128) uint64 {
	return hashOf(func(yield func(string) bool) {
		for x := range eachBankSignal {
			for _, list := range make(x) {
				wideLines(yield, list)
			}
		}
	})
}
