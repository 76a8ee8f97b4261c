package tests

import (
	"maps"
	"math"
	"slices"
	"strings"
	"testing"

	"loop.example/g01155/impl"
)

// bitsOf tells also NaNs apart, so that a change of one would be seen.
func bitsOf(x []complex128) []uint64 {
	var list []uint64
	for _, each := range x {
		list = append(list, math.Float64bits(real(each)), math.Float64bits(imag(each)))
	}
	return list
}

func narrowBitsOf(x []complex64) []uint32 {
	var list []uint32
	for _, each := range x {
		list = append(list, math.Float32bits(real(each)), math.Float32bits(imag(each)))
	}
	return list
}

// withRoom has unused capacity behind it, with numbers that must stay.
func withRoom(x []complex128) []complex128 {
	room := append(slices.Clone(x), 7, 8i, complex(nan, -9))
	return room[:len(x)]
}

func mixedSignal() []complex128 {
	return []complex128{1, complex(minus0, nan), complex(inf, -inf), 0.1 + 3i, complex(least, great), complex(otherNaN, 2)}
}

// signalFunctions are the functions of signals that return one.
func signalFunctions() map[string]func(x, y []complex128) ([]complex128, int64) {
	return map[string]func(x, y []complex128) ([]complex128, int64){
		"AddSignals": impl.AddSignals,
		"ScaleSignal": func(x, y []complex128) ([]complex128, int64) {
			return impl.ScaleSignal(x, 2-1i)
		},
	}
}

// valueFunctions are those that return anything else, written as a text.
func valueFunctions() map[string]func(x, y []complex128) (string, int64) {
	return map[string]func(x, y []complex128) (string, int64){
		"SumOf": func(x, y []complex128) (string, int64) {
			s, code := impl.SumOf(x)
			return impl.BitsText(s), code
		},
		"DotOf": func(x, y []complex128) (string, int64) {
			s, code := impl.DotOf(x, y)
			return impl.BitsText(s), code
		},
		"EnergyOf": func(x, y []complex128) (string, int64) {
			e, code := impl.EnergyOf(x)
			return impl.BitsText(complex(e, 0)), code
		},
		"NarrowSignal": func(x, y []complex128) (string, int64) {
			s, code := impl.NarrowSignal(x)
			var text strings.Builder
			for _, each := range s {
				text.WriteString(impl.NarrowBitsText(each) + "\n")
			}
			return text.String(), code
		},
		"SameSignals": func(x, y []complex128) (string, int64) {
			return map[bool]string{true: "yes", false: "no"}[impl.SameSignals(x, y)], 0
		},
		"IsWithin": func(x, y []complex128) (string, int64) {
			is, code := impl.IsWithin(x, y, 10)
			return map[bool]string{true: "yes", false: "no"}[is], code
		},
	}
}

// allSignalFunctions and allValueFunctions are those of all chapters.
func allSignalFunctions() map[string]func(x, y []complex128) ([]complex128, int64) {
	all := signalFunctions()
	maps.Copy(all, transformFunctions())
	maps.Copy(all, convolutionFunctions())
	maps.Copy(all, bankFunctions())
	return all
}

func allValueFunctions() map[string]func(x, y []complex128) (string, int64) {
	all := valueFunctions()
	maps.Copy(all, boundFunctions())
	maps.Copy(all, lagFunctions())
	maps.Copy(all, bandFunctions())
	maps.Copy(all, spectrumFunctions())
	return all
}

func TestPromise1SignalsStayAsTheyAre(t *testing.T) {
	x, y := withRoom(mixedSignal()), withRoom(mixedSignal())
	slices.Reverse(y)
	before := [][]uint64{bitsOf(x[:cap(x)]), bitsOf(y[:cap(y)])}
	check := func(name string) {
		t.Helper()
		if !slices.Equal(bitsOf(x[:cap(x)]), before[0]) || !slices.Equal(bitsOf(y[:cap(y)]), before[1]) {
			t.Errorf("%s: an argument was modified", name)
		}
	}
	for name, run := range allSignalFunctions() {
		one, first := run(x, y)
		check(name)
		two, second := run(x, y)
		if first != second || !slices.EqualFunc(one, two, same) {
			t.Errorf("%s: %v and then %v", name, one, two)
		}
		clear(one[:cap(one)])
		check(name + ", result overwritten")
		three, _ := run(x, y)
		if !slices.EqualFunc(two, three, same) {
			t.Errorf("%s: a result shares memory", name)
		}
	}
	for name, run := range allValueFunctions() {
		one, first := run(x, y)
		check(name)
		two, second := run(x, y)
		if one != two || first != second {
			t.Errorf("%s: %s and then %s", name, one, two)
		}
	}
}

func TestPromise1NarrowSignalsStayAsTheyAre(t *testing.T) {
	x := narrowed(withRoom(mixedSignal()))
	x = append(x, 7, 8i)[:len(x)]
	before := narrowBitsOf(x[:cap(x)])
	one, _ := impl.WidenSignal(x)
	two, _ := impl.WidenSignal(x)
	if !slices.EqualFunc(one, two, same) {
		t.Errorf("WidenSignal: %v and then %v", one, two)
	}
	clear(one[:cap(one)])
	if !slices.Equal(narrowBitsOf(x[:cap(x)]), before) {
		t.Error("WidenSignal: the argument was modified")
	}
	wide := mixedSignal()
	narrow, _ := impl.NarrowSignal(wide)
	clear(narrow[:cap(narrow)])
	if !slices.Equal(bitsOf(wide), bitsOf(mixedSignal())) {
		t.Error("NarrowSignal: the argument was modified")
	}
}

func TestPromise1NumbersOfAnyKind(t *testing.T) {
	for _, x := range anyNumbers() {
		for range 2 {
			narrow := impl.NarrowOf(x)
			wantSame(t, "Conjugate twice", impl.Conjugate(impl.Conjugate(x)), x)
			wantSame(t, "WideOf", impl.WideOf(narrow), impl.WideOf(narrow))
			wantSame(t, "LossOf", impl.LossOf(x), impl.LossOf(x))
			wantSameReal(t, "SquareOf", impl.SquareOf(x), impl.SquareOf(x))
			wantSameReal(t, "SizeOf", impl.SizeOf(x), impl.SizeOf(x))
			wantSameReal(t, "NarrowSizeOf", float64(impl.NarrowSizeOf(narrow)), float64(impl.NarrowSizeOf(narrow)))
			want(t, "IsNarrow", impl.IsNarrow(x), impl.IsNarrow(x))
		}
	}
	for _, x := range fewNumbers() {
		for _, y := range fewNumbers() {
			p, q := impl.NarrowOf(x), impl.NarrowOf(y)
			wantSame(t, "Product", impl.Product(x, y), impl.Product(x, y))
			wantSame(t, "Quotient", impl.Quotient(x, y), impl.Quotient(x, y))
			wantSame(t, "GoQuotient", impl.GoQuotient(x, y), impl.GoQuotient(x, y))
			wantSame(t, "NarrowProduct", complex128(impl.NarrowProduct(p, q)), complex128(impl.NarrowProduct(p, q)))
			wantSame(t, "NarrowQuotient", complex128(impl.NarrowQuotient(p, q)), complex128(impl.NarrowQuotient(p, q)))
			wantSame(t, "GoNarrowQuotient", complex128(impl.GoNarrowQuotient(p, q)), complex128(impl.GoNarrowQuotient(p, q)))
		}
	}
}

func TestPromise1NilAndEmptySignals(t *testing.T) {
	for _, x := range [][]complex128{nil, {}} {
		for _, y := range [][]complex128{nil, {}} {
			for name, run := range allSignalFunctions() {
				got, code := run(x, y)
				wantSignal(t, name+" of nothing", got, code)
			}
			s, one := impl.SumOf(x)
			d, two := impl.DotOf(x, y)
			e, three := impl.EnergyOf(x)
			wantSame(t, "SumOf nothing", s, 0)
			wantSame(t, "DotOf nothing", d, 0)
			wantSameReal(t, "EnergyOf nothing", e, 0)
			narrow, four := impl.NarrowSignal(x)
			is, five := impl.IsWithin(x, y, 0)
			want(t, "codes", [5]int64{one, two, three, four, five}, [5]int64{})
			want(t, "NarrowSignal of nothing", len(narrow), 0)
			want(t, "IsWithin of nothing", is, true)
			want(t, "SameSignals of nothing", impl.SameSignals(x, y), true)
		}
	}
	for _, x := range [][]complex64{nil, {}} {
		got, code := impl.WidenSignal(x)
		wantSignal(t, "WidenSignal of nothing", got, code)
	}
}

func TestPromise1VeryLongArguments(t *testing.T) {
	x := make([]complex128, 500000)
	for name, run := range allSignalFunctions() {
		got, code := run(x, x)
		wantCode(t, name, got, code, impl.ErrLimit)
	}
	want(t, "SameSignals", impl.SameSignals(x, x), true)
	text := strings.Repeat("0", 1000000)
	for _, long := range []string{text, text + " " + text, strings.Repeat(" ", 1000000)} {
		_, one := impl.ReadBits(long)
		_, two := impl.ReadNarrowBits(long)
		want(t, "long text", [2]int64{one, two}, [2]int64{impl.ErrSyntax, impl.ErrSyntax})
	}
}

func TestPromise1ConstantsAndCodes(t *testing.T) {
	names := []string{"ok", "invalid", "range", "limit", "state", "syntax", "notfound", "budget", "proof"}
	codes := []int64{impl.OK, impl.ErrInvalid, impl.ErrRange, impl.ErrLimit, impl.ErrState, impl.ErrSyntax, impl.ErrNotFound, impl.ErrBudget, impl.ErrProof}
	for i, code := range codes {
		want(t, "code", code, int64(i))
		want(t, "CodeName", impl.CodeName(code), names[i])
	}
	for _, code := range []int64{-1, 9, 10, 256, 1 << 32, math.MinInt64, math.MaxInt64} {
		want(t, "CodeName", impl.CodeName(code), "")
	}
	want(t, "MaxSignal", impl.MaxSignal, 256)
	want(t, "MaxUnits", impl.MaxUnits, 1000000000000000000)
}
