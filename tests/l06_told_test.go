package tests

import (
	"math"

	"loop.example/g01155/impl"
)

// What the document tells of spectra, made once more and step by step, each step
// rounded from its exact result.

func toldPowers(x []complex128) []float64 {
	var list []float64
	for _, each := range x {
		list = append(list, toldSquare(each))
	}
	return list
}

func toldAverage(frames [][]complex128) []float64 {
	var list []float64
	for place := range frames[0] {
		var terms []float64
		for _, frame := range frames {
			terms = append(terms, toldSquare(frame[place]))
		}
		list = append(list, quotient(toldSum(terms), float64(len(frames))))
	}
	return list
}

func toldCross(first, second [][]complex128) []complex128 {
	var list []complex128
	for place := range first[0] {
		var terms, others []float64
		for m := range first {
			against := complex(real(second[m][place]), -imag(second[m][place]))
			p := toldProduct(first[m][place], against)
			terms, others = append(terms, real(p)), append(others, imag(p))
		}
		count := float64(len(first))
		list = append(list, complex(quotient(toldSum(terms), count), quotient(toldSum(others), count)))
	}
	return list
}

func toldCoherence(first, second [][]complex128) []float64 {
	var list []float64
	alone, other := toldAverage(first), toldAverage(second)
	for k, each := range toldCross(first, second) {
		list = append(list, quotient(toldSquare(each), product(alone[k], other[k])))
	}
	return list
}

func toldSmooth(p []float64, reach int) []float64 {
	var list []float64
	n := len(p)
	for k := range p {
		var terms []float64
		for place := k - reach; place <= k+reach; place++ {
			terms = append(terms, p[((place%n)+n)%n])
		}
		list = append(list, quotient(toldSum(terms), float64(2*reach+1)))
	}
	return list
}

// besides are the numbers before and behind a place.
func besides(p []float64, k int) (float64, float64) {
	n := len(p)
	return p[(k+n-1)%n], p[(k+1)%n]
}

func toldPeaks(p []float64, floor float64) []int64 {
	var places []int64
	for k, each := range p {
		before, behind := besides(p, k)
		if each > before && each > behind && each >= floor {
			places = append(places, int64(k))
		}
	}
	return places
}

// toldTop tells ErrState where there is no top.
func toldTop(p []float64, k int) (float64, float64, int64) {
	l, r := besides(p, k)
	c := p[k]
	slope := sum(l, -r)
	d := sum(sum(l, -product(2, c)), r)
	if d == 0 || d != d {
		return 0, 0, impl.ErrState
	}
	offset := quotient(product(0.5, slope), d)
	if !(offset >= -1 && offset <= 1) {
		return 0, 0, impl.ErrState
	}
	return offset, sum(c, -product(product(0.25, slope), offset)), impl.OK
}

func toldCentroid(p []float64) (float64, int64) {
	if len(p) == 0 {
		return 0, impl.ErrState
	}
	total := toldSum(p)
	if total == 0 || total != total {
		return 0, impl.ErrState
	}
	var terms []float64
	for k, each := range p {
		terms = append(terms, product(float64(k), each))
	}
	return quotient(toldSum(terms), total), impl.OK
}

// toldMedian takes away the first one of the least numbers until it has come to
// the one in the middle.
func toldMedian(p []float64) (float64, int64) {
	left := append([]float64{}, p...)
	for _, each := range p {
		if each != each {
			return 0, impl.ErrState
		}
	}
	for len(left) > 0 {
		best := 0
		for i, each := range left {
			if each < left[best] {
				best = i
			}
		}
		if len(p)-len(left) == (len(p)-1)/2 {
			return left[best], impl.OK
		}
		left = append(left[:best], left[best+1:]...)
	}
	return 0, impl.ErrState
}

func toldApart(p, q []float64) float64 {
	var terms []float64
	for i := range p {
		terms = append(terms, math.Abs(sum(p[i], -q[i])))
	}
	if len(terms) == 0 {
		return 0
	}
	return toldSum(terms)
}

func toldPhase(x complex128) float64 {
	a, b := math.Abs(real(x)), math.Abs(imag(x))
	switch {
	case a != a || b != b:
		return nan
	case a == inf && b == inf:
		a, b = 1, 1
	case a == inf:
		a, b = 1, 0
	case b == inf:
		a, b = 0, 1
	case a == 0 && b == 0:
		return 0
	}
	q := quotient(a, b)
	if b < a {
		q = quotient(b, a)
	}
	for range 2 {
		q = quotient(q, sum(1, math.Sqrt(sum(1, product(q, q)))))
	}
	y, t := product(q, q), quotient(1, 23)
	for m := 10; m >= 0; m-- {
		t = sum(quotient(1, float64(2*m+1)), -product(y, t))
	}
	e := product(product(q, t), 0.6366197723675814)
	if b > a {
		e = sum(0.25, -e)
	}
	if real(x) < 0 {
		e = sum(0.5, -e)
	}
	if imag(x) < 0 {
		e = -e
	}
	return e
}

func toldWrapped(a float64) float64 {
	if !isNumber(a) {
		return a
	}
	return sum(a, -math.Floor(sum(a, 0.5)))
}

func toldUnwrapped(p []float64) []float64 {
	var list []float64
	for i, each := range p {
		if i > 0 {
			each = sum(list[i-1], toldWrapped(sum(each, -p[i-1])))
		}
		list = append(list, each)
	}
	return list
}

func toldDelays(p []float64) []float64 {
	var list []float64
	phases := toldUnwrapped(p)
	for i := 1; i < len(p); i++ {
		list = append(list, sum(phases[i-1], -phases[i]))
	}
	return list
}

func toldBin(x []complex128, k int64) complex128 {
	n := int64(len(x))
	found := x[n-1]
	for i := n - 2; i >= 0; i-- {
		found = plus(toldProduct(found, toldTurn(n, (n-k)%n)), x[i])
	}
	return found
}

func toldPolar(size, phase float64) complex128 {
	if !isNumber(phase) {
		return complex(nan, nan)
	}
	j := int64(math.Floor(sum(product(toldWrapped(phase), 1024), 0.5)))
	return timesReal(toldTurn(1024, (j%1024+1024)%1024), size)
}

// eachListOfPowers goes through the parts of all signals of all lengths.
func eachListOfPowers(yield func(p []float64) bool) {
	for x := range eachBankSignal {
		first, second := partsOf(x)
		if !yield(first) || !yield(second) {
			return
		}
	}
}

// eachListOfPhases has the phases of the spectrum of each signal as well.
func eachListOfPhases(yield func(p []float64) bool) {
	for x := range eachBankSignal {
		first, second := partsOf(x)
		spectrum, _ := impl.TransformOf(x)
		phases, _ := impl.PhasesOf(spectrum)
		if !yield(first) || !yield(second) || !yield(phases) {
			return
		}
	}
}

// hashOfReals is the hash of what is made of each list.
func hashOfReals(lists func(yield func(p []float64) bool), make func(p []float64) []float64) uint64 {
	return hashOf(func(yield func(string) bool) {
		for p := range lists {
			wideLines(yield, complexOf(make(p)))
		}
	})
}

// reachesOf has the least reaches of a list, one between, and the greatest one.
func reachesOf(n int) []int64 {
	var list []int64
	for _, reach := range []int{0, 1, 2, n / 2, n - 1} {
		if reach >= 0 && reach < n {
			list = append(list, int64(reach))
		}
	}
	return list
}

// binsOf are all places of a signal, or some of a long one.
func binsOf(n int) []int64 {
	if n > 65 {
		return []int64{0, 1, int64(n / 3), int64(n - 1)}
	}
	var list []int64
	for k := range n {
		list = append(list, int64(k))
	}
	return list
}

// oddPowers are lists with numbers of every kind.
func oddPowers() [][]float64 {
	list := [][]float64{
		nil, {1}, {minus0}, {nan}, {inf}, {great}, {1, 2}, {minus0, minus0}, {1, -1}, {inf, -inf}, {least, -least}, {great, great},
		{1, 3, 2}, {0, minus0, 0}, {minus0, minus0, minus0}, {1, nan, 1}, {nan, 1, 0}, {0, inf, 1}, {inf, inf, 0}, {-inf, 0, -inf}, {great, -great, great}, {-great, great, -great},
		{least, 3 * least, 2 * least}, {-1, -2, -3}, {1, 1 + math.Ldexp(1, -52), 1}, {0.1, 0.2, 0.3, 0.4}, {1, 4, 3, 4}, {5, 5, 5, 5}, {1e300, 1, -1e300, 2}, {1, 1e17, -1e17, 3, 1e-17},
	}
	for n := 1; n <= 9; n++ {
		list = append(list, oddWindow(n))
	}
	reals := anyReals()
	for i := 0; i+8 <= len(reals); i += 4 {
		list = append(list, reals[i:i+8])
	}
	return append(list, reals)
}

// eachPowers goes through ordinary lists and odd ones.
func eachPowers(yield func(p []float64) bool) {
	for _, p := range oddPowers() {
		if !yield(p) {
			return
		}
	}
	for p := range eachListOfPowers {
		if !yield(p) {
			return
		}
	}
}
