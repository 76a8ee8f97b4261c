package tests

import (
	"math"
	"math/big"
	"math/rand"
	"testing"

	"loop.example/g01155/impl"
)

var (
	inf      = math.Inf(1)
	nan      = math.NaN()
	minus0   = math.Copysign(0, -1)
	least    = math.SmallestNonzeroFloat64
	great    = math.MaxFloat64
	otherNaN = math.Float64frombits(0xfff0000000000001)
)

// anyReals has numbers of every kind, at and around the borders of both widths.
func anyReals() []float64 {
	half := math.Ldexp(1, 127) * (2 - math.Ldexp(1, -24))
	list := []float64{
		0, 1, 3, 0.1, 1.0 / 3, 0.5, 16777217, 16777219,
		1 + math.Ldexp(1, -30), 1 + math.Ldexp(1, -52),
		least, math.Ldexp(1, -1022), math.Ldexp(1, -1000), 1e300, great, inf, nan,
		math.Ldexp(1, -150), math.Nextafter(math.Ldexp(1, -150), 1), math.Ldexp(1, -149), math.Ldexp(1, -126),
		math.MaxFloat32, half, math.Nextafter(half, 0),
	}
	for _, a := range list {
		list = append(list, -a)
	}
	return append(list, otherNaN)
}

func numbersWith(parts []float64) []complex128 {
	var list []complex128
	for _, a := range parts {
		for _, b := range parts {
			list = append(list, complex(a, b))
		}
	}
	return list
}

func anyNumbers() []complex128 { return numbersWith(anyReals()) }

// fewNumbers are few enough to take all pairs of them.
func fewNumbers() []complex128 {
	return numbersWith([]float64{0, minus0, 1, -1, -3, 0.1, 1 + math.Ldexp(1, -30), least, -1e300, great, inf, -inf, nan})
}

// drawnNumbers are the same in each run.
func drawnNumbers(count int) []complex128 {
	draw := rand.New(rand.NewSource(1))
	part := func() float64 { return math.Ldexp(draw.Float64()-0.5, draw.Intn(60)-30) }
	list := make([]complex128, count)
	for i := range list {
		list[i] = complex(part(), part())
	}
	return list
}

func narrowed(list []complex128) []complex64 {
	var narrow []complex64
	for _, x := range list {
		narrow = append(narrow, complex(float32(real(x)), float32(imag(x))))
	}
	return narrow
}

// sum, product and quotient find the exact result and round it once.
func sum(a, b float64) float64 {
	if !isNumber(a) || !isNumber(b) {
		return a + b
	}
	exact := new(big.Float).SetPrec(2200)
	c, _ := exact.Add(big.NewFloat(a), big.NewFloat(b)).Float64()
	return c
}

func product(a, b float64) float64 {
	if !isNumber(a) || !isNumber(b) {
		return a * b
	}
	c, _ := new(big.Float).SetPrec(200).Mul(big.NewFloat(a), big.NewFloat(b)).Float64()
	return c
}

func quotient(a, b float64) float64 {
	if !isNumber(a) || !isNumber(b) || a == 0 || b == 0 {
		return a / b
	}
	top, bottom := new(big.Rat).SetFloat64(a), new(big.Rat).SetFloat64(b)
	c, _ := new(big.Rat).Quo(top, bottom).Float64()
	return math.Copysign(c, math.Copysign(1, a)*math.Copysign(1, b))
}

func isNumber(a float64) bool { return !math.IsNaN(a) && !math.IsInf(a, 0) }

func sameReal(a, b float64) bool {
	if a != a || b != b {
		return a != a && b != b
	}
	return a == b && math.Signbit(a) == math.Signbit(b)
}

func same(x, y complex128) bool { return sameReal(real(x), real(y)) && sameReal(imag(x), imag(y)) }

func wantSame(t *testing.T, name string, got, want complex128) {
	t.Helper()
	if !same(got, want) {
		t.Errorf("%s: got %v, want %v", name, got, want)
	}
}

func wantSameReal(t *testing.T, name string, got, want float64) {
	t.Helper()
	if !sameReal(got, want) {
		t.Errorf("%s: got %v, want %v", name, got, want)
	}
}

func wantSignal(t *testing.T, name string, got []complex128, code int64, want ...complex128) {
	t.Helper()
	ok := code == impl.OK && len(got) == len(want)
	for i := 0; ok && i < len(want); i++ {
		ok = same(got[i], want[i])
	}
	if !ok {
		t.Errorf("%s: got %v and code %d, want %v", name, got, code, want)
	}
}

func want[T comparable](t *testing.T, name string, got, want T) {
	t.Helper()
	if got != want {
		t.Errorf("%s: got %v, want %v", name, got, want)
	}
}

// wantCode asks for an error with which nothing else is told.
func wantCode[T any](t *testing.T, name string, got []T, code, want int64) {
	t.Helper()
	if len(got) != 0 || code != want {
		t.Errorf("%s: got %v and code %d, want nothing and code %d", name, got, code, want)
	}
}
