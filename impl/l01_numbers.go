package impl

import (
	"math"
	"strconv"
	"strings"
)

// Codes of errors.
const (
	OK          = 0
	ErrInvalid  = 1
	ErrRange    = 2
	ErrLimit    = 3
	ErrState    = 4
	ErrSyntax   = 5
	ErrNotFound = 6
	ErrBudget   = 7
	ErrProof    = 8
)

// Limits of signals and units.
const (
	MaxSignal = 256
	MaxUnits  = 1000000000000000000
)

// How real numbers of both widths are laid out in bits and in texts of bits.
const (
	wideSign     = 1 << 63
	narrowSign   = 1 << 31
	wideDigits   = 16
	narrowDigits = 8
	hexDigits    = "0123456789abcdef"
	nanText      = "nan"
)

// number is a complex number of one of both widths. Widening changes nothing,
// so its methods look at the wide parts, and only results are converted back.
type number[T complex64 | complex128] struct {
	value T
}

func numberOf[T complex64 | complex128](x T) number[T] { return number[T]{value: x} }

func (n number[T]) wide() complex128 { return complex128(n.value) }

func (n number[T]) narrow() complex64 { return complex64(n.value) }

func (n number[T]) parts() (float64, float64) {
	x := n.wide()
	return real(x), imag(x)
}

func (n number[T]) isFinite() bool {
	a, b := n.parts()
	return isFiniteReal(a) && isFiniteReal(b)
}

func (n number[T]) isSame(m number[T]) bool {
	a, b := n.parts()
	c, d := m.parts()
	return isSameReal(a, c) && isSameReal(b, d)
}

func (n number[T]) isEqual(m number[T]) bool { return n.value == m.value }

// times converts each product to float64, which keeps compilers from fusing it
// with the sum, so that it is rounded on its own.
func (n number[T]) times(m number[T]) T {
	a, b := n.parts()
	c, d := m.parts()
	return T(complex(float64(a*c)-float64(b*d), float64(a*d)+float64(b*c)))
}

// over divides by the part of m that is greater in size, so that nothing on the
// way is too great; products are rounded as in times.
func (n number[T]) over(m number[T]) T {
	a, b := n.parts()
	c, d := m.parts()
	if math.Abs(c) >= math.Abs(d) {
		r := d / c
		s := c + float64(d*r)
		return T(complex((a+float64(b*r))/s, (b-float64(a*r))/s))
	}
	r := c / d
	s := d + float64(c*r)
	return T(complex((float64(a*r)+b)/s, (float64(b*r)-a)/s))
}

// overByOperator divides wide numbers for both widths: Go's operator divides
// narrow ones in the same way.
func (n number[T]) overByOperator(m number[T]) T { return T(n.wide() / m.wide()) }

func (n number[T]) conjugate() T {
	a, b := n.parts()
	return T(complex(a, -b))
}

func (n number[T]) square() float64 {
	a, b := n.parts()
	return float64(a*a) + float64(b*b)
}

func (n number[T]) size() float64 { return math.Sqrt(n.square()) }

func isFiniteReal(a float64) bool { return !math.IsNaN(a) && !math.IsInf(a, 0) }

// isSameReal looks at bits, as == takes 0 and -0 for one number.
func isSameReal(a, b float64) bool {
	if math.IsNaN(a) || math.IsNaN(b) {
		return math.IsNaN(a) && math.IsNaN(b)
	}
	return math.Float64bits(a) == math.Float64bits(b)
}

// CodeName returns the name of an error code.
func CodeName(code int64) string {
	switch code {
	case OK:
		return "ok"
	case ErrInvalid:
		return "invalid"
	case ErrRange:
		return "range"
	case ErrLimit:
		return "limit"
	case ErrState:
		return "state"
	case ErrSyntax:
		return "syntax"
	case ErrNotFound:
		return "notfound"
	case ErrBudget:
		return "budget"
	case ErrProof:
		return "proof"
	}
	return ""
}

// IsFinite reports whether both parts are finite.
func IsFinite(x complex128) bool { return numberOf(x).isFinite() }

// IsFiniteNarrow reports whether both parts are finite.
func IsFiniteNarrow(x complex64) bool { return numberOf(x).isFinite() }

// SameNumber reports whether two numbers are the same.
func SameNumber(x, y complex128) bool { return numberOf(x).isSame(numberOf(y)) }

// SameNarrow reports whether two narrow numbers are the same.
func SameNarrow(x, y complex64) bool { return numberOf(x).isSame(numberOf(y)) }

// IsEqual reports whether two numbers are equal.
func IsEqual(x, y complex128) bool { return numberOf(x).isEqual(numberOf(y)) }

// IsEqualNarrow reports whether two narrow numbers are equal.
func IsEqualNarrow(x, y complex64) bool { return numberOf(x).isEqual(numberOf(y)) }

// Product returns the product.
func Product(x, y complex128) complex128 { return numberOf(x).times(numberOf(y)) }

// Quotient returns the quotient.
func Quotient(x, y complex128) complex128 { return numberOf(x).over(numberOf(y)) }

// NarrowProduct returns the product of narrow numbers.
func NarrowProduct(x, y complex64) complex64 { return numberOf(x).times(numberOf(y)) }

// NarrowQuotient returns the quotient of narrow numbers.
func NarrowQuotient(x, y complex64) complex64 { return numberOf(x).over(numberOf(y)) }

// GoQuotient returns what Go's operator gives.
func GoQuotient(x, y complex128) complex128 { return numberOf(x).overByOperator(numberOf(y)) }

// GoNarrowQuotient returns what Go's operator gives for narrow numbers.
func GoNarrowQuotient(x, y complex64) complex64 { return numberOf(x).overByOperator(numberOf(y)) }

// Conjugate returns the conjugate.
func Conjugate(x complex128) complex128 { return numberOf(x).conjugate() }

// SquareOf returns the square of the size.
func SquareOf(x complex128) float64 { return numberOf(x).square() }

// SizeOf returns the size.
func SizeOf(x complex128) float64 { return numberOf(x).size() }

// NarrowSizeOf returns the size of a narrow number.
func NarrowSizeOf(x complex64) float32 { return float32(numberOf(x).size()) }

// NarrowOf narrows a number.
func NarrowOf(x complex128) complex64 { return numberOf(x).narrow() }

// WideOf widens a number.
func WideOf(x complex64) complex128 { return numberOf(x).wide() }

// LossOf returns what is lost by narrowing.
func LossOf(x complex128) complex128 { return x - WideOf(NarrowOf(x)) }

// IsNarrow reports whether nothing is lost by narrowing.
func IsNarrow(x complex128) bool { return SameNumber(x, WideOf(NarrowOf(x))) }

// NextUp returns the next greater number.
func NextUp(a float64) float64 { return math.Nextafter(a, math.Inf(1)) }

// NextUpNarrow returns the next greater narrow number.
func NextUpNarrow(a float32) float32 { return math.Nextafter32(a, float32(math.Inf(1))) }

// UnitsApart returns how many steps lie between two numbers.
func UnitsApart(a, b float64) (int64, int64) {
	if math.IsNaN(a) || math.IsNaN(b) {
		return 0, ErrRange
	}
	p := placeOf(math.Float64bits(a), wideSign)
	q := placeOf(math.Float64bits(b), wideSign)
	return stepsBetween(p, q), OK
}

// NarrowUnitsApart returns how many steps lie between two narrow numbers.
func NarrowUnitsApart(a, b float32) (int64, int64) {
	if math.IsNaN(float64(a)) || math.IsNaN(float64(b)) {
		return 0, ErrRange
	}
	p := placeOf(uint64(math.Float32bits(a)), narrowSign)
	q := placeOf(uint64(math.Float32bits(b)), narrowSign)
	return stepsBetween(p, q), OK
}

// placeOf returns the place of a number with these bits in the order of its
// width: both zeros stand at 0, and negative numbers at negative places.
func placeOf(bits, sign uint64) int64 {
	if bits&sign != 0 {
		return -int64(bits &^ sign)
	}
	return int64(bits)
}

// stepsBetween subtracts unsigned numbers, as the difference of two places may
// be too great for an int64.
func stepsBetween(p, q int64) int64 {
	steps := uint64(max(p, q)) - uint64(min(p, q))
	return int64(min(steps, MaxUnits))
}

// BitsText returns the text of the bits of a number.
func BitsText(x complex128) string { return realText(real(x)) + " " + realText(imag(x)) }

// NarrowBitsText returns the text of the bits of a narrow number.
func NarrowBitsText(x complex64) string {
	return narrowRealText(real(x)) + " " + narrowRealText(imag(x))
}

func realText(a float64) string {
	if math.IsNaN(a) {
		return nanText
	}
	return digitsOf(math.Float64bits(a), wideDigits)
}

func narrowRealText(a float32) string {
	if math.IsNaN(float64(a)) {
		return nanText
	}
	return digitsOf(uint64(math.Float32bits(a)), narrowDigits)
}

func digitsOf(bits uint64, count int) string {
	digits := strconv.FormatUint(bits, 16)
	return strings.Repeat("0", count-len(digits)) + digits
}

// ReadBits returns the number with a text.
func ReadBits(text string) (complex128, int64) {
	a, b, code := readParts(text, readReal)
	return complex(a, b), code
}

// ReadNarrowBits returns the narrow number with a text.
func ReadNarrowBits(text string) (complex64, int64) {
	a, b, code := readParts(text, readNarrowReal)
	return complex(a, b), code
}

func readParts[R float32 | float64](text string, read func(string) (R, bool)) (R, R, int64) {
	first, second, _ := strings.Cut(text, " ")
	a, isFirst := read(first)
	b, isSecond := read(second)
	if !isFirst || !isSecond {
		return 0, 0, ErrSyntax
	}
	return a, b, OK
}

func readReal(text string) (float64, bool) {
	if text == nanText {
		return math.NaN(), true
	}
	bits, ok := readDigits(text, wideDigits)
	a := math.Float64frombits(bits)
	return a, ok && !math.IsNaN(a)
}

func readNarrowReal(text string) (float32, bool) {
	if text == nanText {
		return float32(math.NaN()), true
	}
	bits, ok := readDigits(text, narrowDigits)
	a := math.Float32frombits(uint32(bits))
	return a, ok && !math.IsNaN(float64(a))
}

// readDigits does not use strconv, which takes capital letters as well.
func readDigits(text string, count int) (uint64, bool) {
	if len(text) != count {
		return 0, false
	}
	bits := uint64(0)
	for i := range len(text) {
		digit := strings.IndexByte(hexDigits, text[i])
		if digit < 0 {
			return 0, false
		}
		bits = bits<<4 | uint64(digit)
	}
	return bits, true
}

// AddSignals returns the sums.
func AddSignals(x, y []complex128) ([]complex128, int64) {
	if code := checkPair(x, y); code != OK {
		return nil, code
	}
	sums := make([]complex128, len(x))
	for i := range x {
		sums[i] = x[i] + y[i]
	}
	return sums, OK
}

// ScaleSignal returns the products with a number.
func ScaleSignal(x []complex128, by complex128) ([]complex128, int64) {
	return mapSignal(x, func(each complex128) complex128 { return Product(each, by) })
}

// SumOf returns the sum of all numbers.
func SumOf(x []complex128) (complex128, int64) {
	if len(x) > MaxSignal {
		return 0, ErrLimit
	}
	return sumOfTerms(x), OK
}

// DotOf returns the sum of all products with conjugates.
func DotOf(x, y []complex128) (complex128, int64) {
	if code := checkPair(x, y); code != OK {
		return 0, code
	}
	products := make([]complex128, len(x))
	for i := range x {
		products[i] = Product(x[i], Conjugate(y[i]))
	}
	return sumOfTerms(products), OK
}

// EnergyOf returns the sum of all squares.
func EnergyOf(x []complex128) (float64, int64) {
	squares, code := mapSignal(x, SquareOf)
	return sumOfTerms(squares), code
}

// NarrowSignal narrows all numbers.
func NarrowSignal(x []complex128) ([]complex64, int64) { return mapSignal(x, NarrowOf) }

// WidenSignal widens all numbers.
func WidenSignal(x []complex64) ([]complex128, int64) { return mapSignal(x, WideOf) }

// SameSignals reports whether two signals are the same.
func SameSignals(x, y []complex128) bool {
	if len(x) != len(y) {
		return false
	}
	for i := range x {
		if !SameNumber(x[i], y[i]) {
			return false
		}
	}
	return true
}

// IsWithin reports whether two signals are at most so many units apart.
func IsWithin(x, y []complex128, units int64) (bool, int64) {
	if code := checkPair(x, y); code != OK {
		return false, code
	}
	if units < 0 {
		return false, ErrRange
	}
	for i := range x {
		if !isRealWithin(real(x[i]), real(y[i]), units) || !isRealWithin(imag(x[i]), imag(y[i]), units) {
			return false, OK
		}
	}
	return true, OK
}

func isRealWithin(a, b float64, units int64) bool {
	apart, code := UnitsApart(a, b)
	return code == OK && apart <= units
}

// checkPair returns the error of functions of two lists of the same length.
func checkPair[X, Y any](x []X, y []Y) int64 {
	if len(x) > MaxSignal || len(y) > MaxSignal {
		return ErrLimit
	}
	if len(x) != len(y) {
		return ErrRange
	}
	return OK
}

// mapSignal returns the list of what is made of each number of a signal.
func mapSignal[T float64 | complex64 | complex128, R any](x []T, change func(T) R) ([]R, int64) {
	if len(x) > MaxSignal {
		return nil, ErrLimit
	}
	list := make([]R, len(x))
	for i := range x {
		list[i] = change(x[i])
	}
	return list, OK
}

// sumOfTerms begins with the first term: 0 ahead of it would make 0 of -0.
func sumOfTerms[T float64 | complex64 | complex128](terms []T) T {
	if len(terms) == 0 {
		return 0
	}
	sum := terms[0]
	for _, term := range terms[1:] {
		sum += term
	}
	return sum
}
