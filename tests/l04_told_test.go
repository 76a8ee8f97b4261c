package tests

import (
	"math"
	"math/bits"

	"loop.example/g01155/impl"
)

// What the document tells of convolutions, made once more and step by step,
// each product from its exact result.

// total adds from left to right; a sum of nothing is 0.
func (w width) total(terms []complex128) complex128 {
	if len(terms) == 0 {
		return 0
	}
	result := terms[0]
	for _, term := range terms[1:] {
		result = w(result + term)
	}
	return result
}

// at returns the number of a convolution at the place n.
func (w width) at(x, h []complex128, n int) complex128 {
	var terms []complex128
	for k := range h {
		if n-k >= 0 && n-k < len(x) {
			terms = append(terms, w.product(h[k], x[n-k]))
		}
	}
	return w.total(terms)
}

func (w width) convolved(x, h []complex128) []complex128 {
	var list []complex128
	for n := range lengthOf(x, h) {
		list = append(list, w.at(x, h, n))
	}
	return list
}

func lengthOf(x, h []complex128) int {
	if len(x) == 0 || len(h) == 0 {
		return 0
	}
	return len(x) + len(h) - 1
}

func toldConvolution(x, h []complex128) []complex128 { return width(wide).convolved(x, h) }

func toldCircle(x, h []complex128) []complex128 {
	var list []complex128
	n := len(x)
	for i := range n {
		var terms []complex128
		for k := range n {
			terms = append(terms, toldProduct(h[k], x[(i-k+n)%n]))
		}
		list = append(list, width(wide).total(terms))
	}
	return list
}

func toldCircleFast(x, h []complex128) []complex128 {
	w := width(wide)
	return w.back(products(w.fast(h), w.fast(x)))
}

func paddedTo(x []complex128, n int) []complex128 {
	return append(append([]complex128{}, x...), make([]complex128, n-len(x))...)
}

// powerOf2 is the least one that is at least n.
func powerOf2(n int) int { return 1 << bits.Len(uint(max(n, 1)-1)) }

func toldFast(x, h []complex128) []complex128 {
	length := lengthOf(x, h)
	if length == 0 {
		return nil
	}
	m := powerOf2(length)
	return toldCircleFast(paddedTo(x, m), paddedTo(h, m))[:length]
}

func toldSaved(x, h []complex128, size int) []complex128 {
	b, length := len(h), lengthOf(x, h)
	var list []complex128
	for p := 0; len(list) < length; p++ {
		piece := make([]complex128, size)
		for i := range piece {
			if place := p*(size-b+1) - (b - 1) + i; place >= 0 && place < len(x) {
				piece[i] = x[place]
			}
		}
		list = append(list, toldCircleFast(piece, paddedTo(h, size))[b-1:]...)
	}
	return list[:length]
}

func toldSizes(x []complex128) float64 {
	sizes := []float64{0}
	for _, each := range x {
		sizes = append(sizes, math.Abs(real(each)), math.Abs(imag(each)))
	}
	return toldSum(sizes)
}

func toldConvolutionBound(x, h []complex128) float64 {
	return quotient(product(toldSizes(x), toldSizes(h)), 1073741824)
}

func toldCorrelation(x, y []complex128) []complex128 {
	var list []complex128
	for i := range lengthOf(x, y) {
		var terms []complex128
		d := i - (len(y) - 1)
		for j, each := range conjugates(y) {
			if j+d >= 0 && j+d < len(x) {
				terms = append(terms, toldProduct(x[j+d], each))
			}
		}
		list = append(list, width(wide).total(terms))
	}
	return list
}

func turned(y []complex128) []complex128 {
	list := make([]complex128, len(y))
	for j, each := range conjugates(y) {
		list[len(y)-1-j] = each
	}
	return list
}

func toldSquare(x complex128) float64 {
	return sum(product(real(x), real(x)), product(imag(x), imag(x)))
}

func toldDivided(x, h []complex128, floor float64) []complex128 {
	var list []complex128
	for k, each := range conjugates(h) {
		p, by := toldProduct(x[k], each), toldSquare(h[k])
		if !(by >= floor) {
			by = floor
		}
		list = append(list, complex(quotient(real(p), by), quotient(imag(p), by)))
	}
	return list
}

func toldDeconvolution(y, h []complex128, floor float64, n int64) []complex128 {
	w, m := width(wide), powerOf2(max(len(y), len(h)))
	return w.back(toldDivided(w.fast(paddedTo(y, m)), w.fast(paddedTo(h, m)), floor))[:n]
}

func toldRecurred(x, a []complex128) []complex128 {
	var list []complex128
	for n, each := range x {
		terms := []complex128{each}
		for k := 0; k < len(a) && k < n; k++ {
			terms = append(terms, toldProduct(a[k], list[n-1-k]))
		}
		list = append(list, width(wide).total(terms))
	}
	return list
}

// otherSignal follows the rule of ruledSignal from another place on.
func otherSignal(n int) []complex128 { return ruledSignal(n + 3)[3:] }

// brokenSignal has numbers that are not finite, or are -0, at places that a
// program outside of this one finds too.
func brokenSignal(n int) []complex128 {
	x := ruledSignal(n)
	for i, each := range []complex128{complex(inf, minus0), complex(minus0, -inf), complex(nan, 1), complex(minus0, minus0), 1e300 - 1e300i} {
		if n > 0 {
			x[(i*5+n/2)%n] = each
		}
	}
	return x
}

// pairsOf has signals of these lengths, of ordinary numbers and of any.
func pairsOf(a, b int) [][2][]complex128 {
	return [][2][]complex128{
		{ruledSignal(a), otherSignal(b)}, {brokenSignal(a), otherSignal(b)}, {ruledSignal(a), brokenSignal(b)},
	}
}

type lengths struct{ a, b int }

// pairLengths are, as circleLengths, in the order of a program outside of this
// one.
func pairLengths() []lengths {
	var list []lengths
	for a := range 18 {
		for b := range 18 {
			list = append(list, lengths{a, b})
		}
	}
	return append(list, lengths{100, 50}, lengths{200, 57}, lengths{57, 200}, lengths{256, 1}, lengths{1, 256}, lengths{128, 129})
}

func circleLengths() []int {
	var list []int
	for n := range 41 {
		list = append(list, n)
	}
	return append(list, 97, 128, 255, 256)
}

func eachPair(yield func(x, h []complex128) bool) {
	for _, l := range pairLengths() {
		for _, p := range pairsOf(l.a, l.b) {
			if !yield(p[0], p[1]) {
				return
			}
		}
	}
}

func eachCircle(yield func(x, h []complex128) bool) {
	for _, n := range circleLengths() {
		for _, p := range pairsOf(n, n) {
			if !yield(p[0], p[1]) {
				return
			}
		}
	}
}

type saveCase struct {
	x, h []complex128
	size int
}

// eachSave goes through what SaveConvolve is held against outside of this
// program.
func eachSave(yield func(c saveCase) bool) {
	for _, l := range pairLengths() {
		if l.a >= 12 || l.b != 1 && l.b != 2 && l.b != 3 && l.b != 7 && l.b != 12 {
			continue
		}
		for _, p := range pairsOf(l.a, l.b) {
			for _, size := range []int{l.b, l.b + 1, 2*l.b + 3, 16} {
				if !yield(saveCase{p[0], p[1], size}) {
					return
				}
			}
		}
	}
	for _, c := range [][3]int{{100, 50, 64}, {200, 57, 100}, {57, 200, 256}, {256, 1, 1}, {1, 256, 256}, {128, 129, 255}, {200, 57, 97}} {
		if !yield(saveCase{ruledSignal(c[0]), otherSignal(c[1]), c[2]}) {
			return
		}
	}
}

// hashOfPairs is the hash of what is made of each pair of signals.
func hashOfPairs(pairs func(yield func(x, h []complex128) bool), make func(x, h []complex128) []complex128) uint64 {
	return hashOf(func(yield func(string) bool) {
		for x, h := range pairs {
			wideLines(yield, make(x, h))
		}
	})
}

// signalAlone drops the code of a function of two signals.
func signalAlone(run func(x, h []complex128) ([]complex128, int64)) func(x, h []complex128) []complex128 {
	return func(x, h []complex128) []complex128 {
		list, _ := run(x, h)
		return list
	}
}

// deconvolved takes as many numbers as there are.
func deconvolved(y, h []complex128) ([]complex128, int64) {
	return impl.Deconvolve(y, h, 0.5, int64(powerOf2(max(len(y), len(h)))))
}
