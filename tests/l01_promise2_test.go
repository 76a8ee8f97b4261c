package tests

import (
	"math"
	"testing"

	"loop.example/g01155/impl"
)

func TestPromise2Finite(t *testing.T) {
	for _, a := range anyReals() {
		is := !math.IsNaN(a) && !math.IsInf(a, 0)
		want(t, "IsFinite real", impl.IsFinite(complex(a, 1)), is)
		want(t, "IsFinite imaginary", impl.IsFinite(complex(1, a)), is)
		narrow := float32(a)
		is = narrow-narrow == 0
		want(t, "IsFiniteNarrow real", impl.IsFiniteNarrow(complex(narrow, 1)), is)
		want(t, "IsFiniteNarrow imaginary", impl.IsFiniteNarrow(complex(1, narrow)), is)
	}
	want(t, "greatest", impl.IsFinite(complex(great, -great)), true)
	want(t, "greatest narrow", impl.IsFiniteNarrow(complex(math.MaxFloat32, -math.MaxFloat32)), true)
	want(t, "too great", impl.IsFiniteNarrow(impl.NarrowOf(complex(great, 0))), false)
}

func TestPromise2SameAndEqual(t *testing.T) {
	for _, c := range []struct {
		a, b        float64
		same, equal bool
	}{
		{0, 0, true, true}, {minus0, minus0, true, true}, {0, minus0, false, true},
		{nan, nan, true, false}, {nan, otherNaN, true, false}, {nan, 0, false, false},
		{nan, inf, false, false}, {inf, inf, true, true}, {inf, -inf, false, false},
		{1, 1, true, true}, {1, -1, false, false}, {1, 1 + math.Ldexp(1, -23), false, false},
		{math.Ldexp(1, -149), 0, false, false}, {math.MaxFloat32, inf, false, false},
	} {
		for _, pair := range [][2]float64{{c.a, c.b}, {c.b, c.a}} {
			x, y := complex(pair[0], 2), complex(pair[1], 2)
			wantBoth(t, x, y, c.same, c.equal)
			wantBoth(t, complex(2, pair[0]), complex(2, pair[1]), c.same, c.equal)
			wantBoth(t, complex(pair[0], 2), complex(pair[1], 3), false, false)
			wantBoth(t, complex(2, pair[0]), complex(3, pair[1]), false, false)
		}
	}
	want(t, "wide only", impl.SameNumber(1, complex(1+math.Ldexp(1, -52), 0)), false)
	want(t, "wide only", impl.IsEqual(1, complex(1, least)), false)
	want(t, "NaN in one part each", impl.SameNumber(complex(nan, 1), complex(1, nan)), false)
}

func wantBoth(t *testing.T, x, y complex128, same, equal bool) {
	t.Helper()
	p, q := narrowed([]complex128{x})[0], narrowed([]complex128{y})[0]
	want(t, "SameNumber", impl.SameNumber(x, y), same)
	want(t, "SameNarrow", impl.SameNarrow(p, q), same)
	want(t, "IsEqual", impl.IsEqual(x, y), equal)
	want(t, "IsEqualNarrow", impl.IsEqualNarrow(p, q), equal)
}

// toldProduct rounds each product and each sum on its own.
func toldProduct(x, y complex128) complex128 {
	a, b, c, d := real(x), imag(x), real(y), imag(y)
	return complex(sum(product(a, c), -product(b, d)), sum(product(a, d), product(b, c)))
}

func toldQuotient(x, y complex128) complex128 {
	a, b, c, d := real(x), imag(x), real(y), imag(y)
	if math.Abs(c) >= math.Abs(d) {
		r := quotient(d, c)
		s := sum(c, product(d, r))
		return complex(quotient(sum(a, product(b, r)), s), quotient(sum(b, -product(a, r)), s))
	}
	r := quotient(c, d)
	s := sum(d, product(c, r))
	return complex(quotient(sum(product(a, r), b), s), quotient(sum(product(b, r), -a), s))
}

func checkProducts(t *testing.T, x, y complex128) {
	t.Helper()
	wantSame(t, "Product", impl.Product(x, y), toldProduct(x, y))
	wantSame(t, "Quotient", impl.Quotient(x, y), toldQuotient(x, y))
	wantSame(t, "GoQuotient", impl.GoQuotient(x, y), x/y)
	p, q := complex64(x), complex64(y)
	wideP, wideQ := complex128(p), complex128(q)
	wantSame(t, "NarrowProduct", complex128(impl.NarrowProduct(p, q)), complex128(complex64(toldProduct(wideP, wideQ))))
	wantSame(t, "NarrowQuotient", complex128(impl.NarrowQuotient(p, q)), complex128(complex64(toldQuotient(wideP, wideQ))))
	wantSame(t, "GoNarrowQuotient", complex128(impl.GoNarrowQuotient(p, q)), complex128(p/q))
}

func TestPromise2ProductsAndQuotients(t *testing.T) {
	for _, x := range fewNumbers() {
		for _, y := range fewNumbers() {
			checkProducts(t, x, y)
		}
	}
	list := drawnNumbers(2000)
	for i := range len(list) - 1 {
		checkProducts(t, list[i], list[i+1])
	}
}

// TestPromise2ProductsAreRoundedFirst has numbers for which a product that is
// added without being rounded shows in the result.
func TestPromise2ProductsAreRoundedFirst(t *testing.T) {
	e := math.Ldexp(1, -30)
	x := complex(1+e, 1+e)
	wantSame(t, "Product", impl.Product(x, x), complex(0, 2*(1+2*e)))
	y := complex(1+e, 1-e)
	wantSame(t, "Product of opposite errors", impl.Product(y, y), complex(4*e, 2))
	wantSameReal(t, "SquareOf", impl.SquareOf(x), 2*(1+2*e))
	wantSameReal(t, "SquareOf, first product", impl.SquareOf(complex(0.75+0x1p-30, 0x1p-27)), 0.5625+0x1.8p-30)
	wantSameReal(t, "SquareOf, second product", impl.SquareOf(complex(0x1p-27, 0.75+0x1p-30)), 0.5625+0x1.8p-30)
	wantSame(t, "NarrowProduct", complex128(impl.NarrowProduct(1+3*0x1p-23+1i, 1+0x1p-23+1i)), complex(0x1p-21*(1+0x1p-23), 2+0x1p-21))
	third := complex(1.0/3, 0.1)
	for _, z := range append(drawnNumbers(500), third) {
		p := impl.Product(z, impl.Conjugate(z))
		want(t, "imaginary part with the conjugate", imag(p), 0)
		wantSameReal(t, "SquareOf", impl.SquareOf(z), real(p))
	}
	for _, z := range anyNumbers() {
		b := imag(impl.Product(z, impl.Conjugate(z)))
		want(t, "0 or NaN with the conjugate", b == 0 || math.IsNaN(b), true)
	}
}

func TestPromise2QuotientsByBorders(t *testing.T) {
	wantSame(t, "equal sizes", impl.Quotient(3+4i, 1-1i), -0.5+3.5i)
	wantSame(t, "equal sizes take the first way", impl.Quotient(1+1i, 1-1i), complex(0, 1))
	wantSame(t, "equal sizes take the first way", impl.Quotient(1+1i, -1+1i), complex(minus0, -1))
	wantSame(t, "narrow equal sizes take the first way", complex128(impl.NarrowQuotient(1+1i, 1-1i)), complex(0, 1))
	wantSame(t, "second way", impl.Quotient(-5+10i, 1+2i), 3+4i)
	wantSame(t, "first way", impl.Quotient(-5+10i, 3+4i), 1+2i)
	wantSame(t, "nothing overflows", impl.Quotient(complex(1e300, 1e300), complex(1e300, 1e300)), 1)
	wantSame(t, "by 0", impl.Quotient(1, 0), complex(nan, nan))
	wantSame(t, "by 0 in Go", impl.GoQuotient(1+1i, 0), complex(inf, inf))
	wantSame(t, "by infinity", impl.Quotient(1+1i, complex(inf, 0)), 0)
	wantSame(t, "by infinities", impl.Quotient(1+1i, complex(inf, inf)), complex(nan, nan))
	wantSame(t, "by infinities in Go", impl.GoQuotient(1+1i, complex(inf, inf)), 0)
	wantSame(t, "by NaN", impl.Quotient(1, complex(1, nan)), complex(nan, nan))
	wantSame(t, "narrow by 0", complex128(impl.NarrowQuotient(1, 0)), complex(nan, nan))
	wantSame(t, "narrow by 0 in Go", complex128(impl.GoNarrowQuotient(1+1i, 0)), complex(inf, inf))
	wantSame(t, "narrow too great", complex128(impl.NarrowQuotient(complex(math.MaxFloat32, 0), 0.5)), complex(inf, 0))
	wantSame(t, "narrow too small", complex128(impl.NarrowProduct(1e-30, 1e-30i)), 0)
	wantSame(t, "minus 0", impl.Product(complex(minus0, minus0), complex(1, minus0)), complex(minus0, 0))
}

func TestPromise2ConjugatesAndSizes(t *testing.T) {
	for _, x := range anyNumbers() {
		a, b := real(x), imag(x)
		wantSame(t, "Conjugate", impl.Conjugate(x), complex(a, math.Copysign(b, -math.Copysign(1, b))))
		square := sum(product(a, a), product(b, b))
		wantSameReal(t, "SquareOf", impl.SquareOf(x), square)
		wantSameReal(t, "SizeOf", impl.SizeOf(x), math.Sqrt(square))
		narrow := complex64(x)
		c, d := float64(real(narrow)), float64(imag(narrow))
		size := float32(math.Sqrt(sum(product(c, c), product(d, d))))
		wantSameReal(t, "NarrowSizeOf", float64(impl.NarrowSizeOf(narrow)), float64(size))
	}
	wantSame(t, "Conjugate of 0", impl.Conjugate(0), complex(0, minus0))
	wantSame(t, "Conjugate of -0", impl.Conjugate(complex(minus0, minus0)), complex(minus0, 0))
	wantSameReal(t, "SizeOf too great squares", impl.SizeOf(1e200), inf)
	wantSameReal(t, "SizeOf too small squares", impl.SizeOf(1e-200), 0)
	wantSameReal(t, "SizeOf infinity and NaN", impl.SizeOf(complex(inf, nan)), nan)
	wantSameReal(t, "NarrowSizeOf squares that are too great only in the narrow width", float64(impl.NarrowSizeOf(3e30+4e30i)), float64(float32(5e30)))
	wantSameReal(t, "NarrowSizeOf too great", float64(impl.NarrowSizeOf(complex(math.MaxFloat32, math.MaxFloat32))), inf)
}

func TestPromise2Narrowing(t *testing.T) {
	half := math.Ldexp(2-math.Ldexp(1, -24), 127)
	for _, c := range []struct{ a, narrow, loss float64 }{
		{0, 0, 0}, {minus0, minus0, 0}, {0.25, 0.25, 0}, {16777217, 16777216, 1}, {16777219, 16777220, -1},
		{-16777217, -16777216, -1}, {1 + 0x1p-30, 1, 0x1p-30}, {1 - 0x1p-30, 1, -0x1p-30},
		{math.MaxFloat32, math.MaxFloat32, 0}, {half, inf, -inf}, {-half, -inf, inf},
		{math.Nextafter(half, 0), math.MaxFloat32, math.Nextafter(half, 0) - math.MaxFloat32}, {1e300, inf, -inf},
		{0x1p-149, 0x1p-149, 0}, {0x1p-150, 0, 0x1p-150}, {-0x1p-150, minus0, -0x1p-150},
		{0x1.8p-149, 0x1p-148, -0x1p-150}, {0x1.0000000000001p-150, 0x1p-149, 0x1.0000000000001p-150 - 0x1p-149},
		{least, 0, least}, {-least, minus0, -least}, {inf, inf, nan}, {-inf, -inf, nan}, {nan, nan, nan},
	} {
		for _, turned := range []bool{false, true} {
			put := func(a float64) complex128 { return complex(a, 0.5) }
			lost := complex(c.loss, 0)
			if turned {
				put = func(a float64) complex128 { return complex(0.5, a) }
				lost = complex(0, c.loss)
			}
			x := put(c.a)
			wantSame(t, "NarrowOf", complex128(impl.NarrowOf(x)), put(c.narrow))
			wantSame(t, "WideOf", impl.WideOf(impl.NarrowOf(x)), put(c.narrow))
			wantSame(t, "LossOf", impl.LossOf(x), lost)
			want(t, "IsNarrow", impl.IsNarrow(x), sameReal(c.a, c.narrow))
		}
	}
}

// TestPromise2NarrowingLosesLittle holds what is lost against the distance of
// the two narrow numbers around.
func TestPromise2NarrowingLosesLittle(t *testing.T) {
	for _, x := range append(drawnNumbers(2000), anyNumbers()...) {
		loss := impl.LossOf(x)
		for _, part := range [][2]float64{{real(x), real(loss)}, {imag(x), imag(loss)}} {
			size := math.Abs(part[0])
			below := float32(size)
			if math.IsNaN(size) || math.IsInf(float64(below), 0) {
				continue
			}
			if float64(below) > size {
				below = math.Nextafter32(below, 0)
			}
			apart := float64(math.Nextafter32(below, float32(inf))) - float64(below)
			if below == math.MaxFloat32 {
				apart = 0x1p104
			}
			if math.Abs(part[1]) > apart/2 {
				t.Errorf("LossOf %v: %v is lost, the distance is %v", part[0], part[1], apart)
			}
		}
	}
	for _, narrow := range narrowed(anyNumbers()) {
		wantSame(t, "NarrowOf WideOf", complex128(impl.NarrowOf(impl.WideOf(narrow))), complex128(narrow))
		want(t, "IsNarrow", impl.IsNarrow(impl.WideOf(narrow)), true)
	}
}
