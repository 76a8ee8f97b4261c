package tests

import (
	"hash/fnv"
	"io"
	"math"

	"loop.example/g01155/impl"
)

// What the document tells of transforms, made once more and step by step, each
// step rounded from its exact result.

type place struct{ n, k int64 }

var turnsToldBefore = map[place]complex128{}

func toldTurn(n, k int64) complex128 {
	if known, ok := turnsToldBefore[place{n, k}]; ok {
		return known
	}
	turn := toldTurnAnew(n, k)
	turnsToldBefore[place{n, k}] = turn
	return turn
}

func toldTurnAnew(n, k int64) complex128 {
	for d := int64(2); d <= k; d++ {
		for n%d == 0 && k%d == 0 {
			n, k = n/d, k/d
		}
	}
	if k == 0 {
		return complex(1, 0)
	}
	if 2*k > n {
		turn := toldTurn(n, n-k)
		return complex(real(turn), -imag(turn))
	}
	if 4*k > n {
		turn := toldTurn(2*n, n-2*k)
		return complex(-real(turn), imag(turn))
	}
	if 8*k > n {
		turn := toldTurn(4*n, n-4*k)
		return complex(imag(turn), real(turn))
	}
	if 8*k == n {
		return complex(math.Sqrt(0.5), math.Sqrt(0.5))
	}
	x := quotient(product(6.283185307179586, float64(k)), float64(n))
	y := product(x, x)
	first := toldSeries(y, func(m int) int { return (2*m - 1) * 2 * m })
	second := toldSeries(y, func(m int) int { return 2 * m * (2*m + 1) })
	return complex(first, product(second, x))
}

func toldSeries(y float64, divisor func(m int) int) float64 {
	t := 1.0
	for m := 9; m >= 1; m-- {
		t = sum(1, -product(quotient(y, float64(divisor(m))), t))
	}
	return t
}

// width tells how numbers of a width are rounded: a sum, a product or a
// quotient of narrow numbers that is rounded to a wide one first is the same.
type width func(x complex128) complex128

func wide(x complex128) complex128 { return x }

func narrow(x complex128) complex128 { return complex128(complex64(x)) }

func (w width) product(x, y complex128) complex128 { return w(toldProduct(x, y)) }

func (w width) share(x complex128, n int) complex128 {
	return w(complex(real(x)/float64(n), imag(x)/float64(n)))
}

func (w width) fast(x []complex128) []complex128 {
	if len(x) <= 1 {
		return append([]complex128{}, x...)
	}
	n, p := len(x), 2
	for n%p != 0 {
		p++
	}
	m := n / p
	parts := make([][]complex128, p)
	for i, each := range x {
		parts[i%p] = append(parts[i%p], each)
	}
	for r := range parts {
		parts[r] = w.fast(parts[r])
	}
	list := make([]complex128, n)
	for k := range m {
		t := []complex128{parts[0][k]}
		for r := 1; r < p; r++ {
			t = append(t, w.product(parts[r][k], w(toldTurn(int64(n), int64((n*r-r*k)%n)))))
		}
		for q := range p {
			list[k+q*m] = w.sumOfTurned(t, q)
		}
	}
	return list
}

func (w width) sumOfTurned(t []complex128, q int) complex128 {
	p := len(t)
	if p == 2 && q == 0 {
		return w(t[0] + t[1])
	}
	if p == 2 {
		return w(t[0] - t[1])
	}
	total := t[0]
	for r := 1; r < p; r++ {
		total = w(total + w.product(t[r], w(toldTurn(int64(p), int64((p*r-r*q%p)%p)))))
	}
	return total
}

func (w width) back(x []complex128) []complex128 {
	list := w.fast(conjugates(x))
	for i, each := range conjugates(list) {
		list[i] = w.share(each, len(x))
	}
	return list
}

func conjugates(x []complex128) []complex128 {
	list := make([]complex128, len(x))
	for i, each := range x {
		list[i] = complex(real(each), -imag(each))
	}
	return list
}

func toldPlain(x []complex128, way int) []complex128 {
	n := len(x)
	list := make([]complex128, n)
	for k := range n {
		list[k] = toldProduct(x[0], 1)
		for j := 1; j < n; j++ {
			rest := ((way*j*k)%n + n) % n
			list[k] += toldProduct(x[j], toldTurn(int64(n), int64(rest)))
		}
	}
	return list
}

func toldPlainBack(x []complex128) []complex128 {
	list := toldPlain(x, 1)
	for i := range list {
		list[i] = width(wide).share(list[i], len(x))
	}
	return list
}

func toldChirp(x []complex128) []complex128 {
	n, m := len(x), 1
	for m < 2*n-1 {
		m *= 2
	}
	c := func(j int) complex128 { return toldTurn(int64(2*n), int64(j*j%(2*n))) }
	against := func(j int) complex128 { return complex(real(c(j)), -imag(c(j))) }
	a, b := make([]complex128, m), make([]complex128, m)
	for j := range x {
		a[j] = toldProduct(x[j], against(j))
		b[j] = c(j)
	}
	for j := 1; j < n; j++ {
		b[m-j] = c(j)
	}
	w := width(wide)
	d := products(w.fast(a), w.fast(b))
	d = w.back(d)
	list := make([]complex128, n)
	for k := range x {
		list[k] = toldProduct(against(k), d[k])
	}
	return list
}

func products(x, y []complex128) []complex128 {
	list := make([]complex128, len(x))
	for i := range x {
		list[i] = toldProduct(x[i], y[i])
	}
	return list
}

func toldPair(x, y []float64) ([]complex128, []complex128) {
	n := len(x)
	var first, second, both []complex128
	for j := range x {
		both = append(both, complex(x[j], y[j]))
	}
	z := width(wide).fast(both)
	for k, each := range z {
		w := conjugates(z)[(n-k)%n]
		s, d := each+w, each-w
		first = append(first, complex(real(s)*0.5, imag(s)*0.5))
		second = append(second, complex(imag(d)*0.5, -(real(d)*0.5)))
	}
	return first, second
}

// ruledSignal follows a rule that a program outside of this one follows too.
func ruledSignal(n int) []complex128 {
	x := make([]complex128, n)
	for j := range x {
		x[j] = complex(float64((j*7+3)%11-5)/8+float64(j)/3, float64((j*5+1)%13-6)/10)
	}
	return x
}

// hashOf is one number for many texts of bits, one to a line.
func hashOf(lines func(yield func(string) bool)) uint64 {
	hash := fnv.New64a()
	for line := range lines {
		io.WriteString(hash, line+"\n")
	}
	return hash.Sum64()
}

func wideLines(yield func(string) bool, x []complex128) bool {
	for _, each := range x {
		if !yield(impl.BitsText(each)) {
			return false
		}
	}
	return true
}

func narrowLines(yield func(string) bool, x []complex64) bool {
	for _, each := range x {
		if !yield(impl.NarrowBitsText(each)) {
			return false
		}
	}
	return true
}

func partsOf(x []complex128) ([]float64, []float64) {
	var first, second []float64
	for _, each := range x {
		first, second = append(first, real(each)), append(second, imag(each))
	}
	return first, second
}

func widened(x []complex64) []complex128 {
	var list []complex128
	for _, each := range x {
		list = append(list, complex128(each))
	}
	return list
}
