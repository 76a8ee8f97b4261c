package tests

import (
	"math"
	"slices"
	"strings"
	"testing"

	"loop.example/g01155/impl"
)

func TestPromise3NextUp(t *testing.T) {
	for _, c := range [][2]float64{
		{0, least}, {minus0, least}, {-least, minus0}, {least, 2 * least}, {1, 1 + 0x1p-52}, {-1, -1 + 0x1p-53},
		{great, inf}, {-inf, -great}, {inf, inf}, {nan, nan}, {otherNaN, nan},
		{math.Nextafter(0x1p-1022, 0), 0x1p-1022}, {math.Nextafter(2, 0), 2},
	} {
		wantSameReal(t, "NextUp", impl.NextUp(c[0]), c[1])
	}
	for _, c := range [][2]float64{
		{0, 0x1p-149}, {minus0, 0x1p-149}, {-0x1p-149, minus0}, {0x1p-149, 0x1p-148}, {1, 1 + 0x1p-23}, {-1, -1 + 0x1p-24},
		{math.MaxFloat32, inf}, {-inf, -math.MaxFloat32}, {inf, inf}, {nan, nan}, {16777216, 16777218},
	} {
		wantSameReal(t, "NextUpNarrow", float64(impl.NextUpNarrow(float32(c[0]))), c[1])
	}
}

func TestPromise3UnitsApart(t *testing.T) {
	of := math.Float64frombits
	for _, c := range []struct {
		a, b float64
		want int64
	}{
		{0, 0, 0}, {0, minus0, 0}, {minus0, minus0, 0}, {1, 1, 0}, {inf, inf, 0}, {-inf, -inf, 0},
		{0, least, 1}, {minus0, least, 1}, {0, -least, 1}, {minus0, -least, 1}, {least, -least, 2},
		{1, 1 + 0x1p-52, 1}, {1, 1 - 0x1p-53, 1}, {1, 2, 1 << 52}, {-1, -2, 1 << 52}, {great, inf, 1}, {-great, -inf, 1},
		{0, of(impl.MaxUnits - 1), impl.MaxUnits - 1}, {0, of(impl.MaxUnits), impl.MaxUnits}, {0, of(impl.MaxUnits + 1), impl.MaxUnits},
		{of(impl.MaxUnits / 2), -of(impl.MaxUnits/2 - 1), impl.MaxUnits - 1}, {of(impl.MaxUnits / 2), -of(impl.MaxUnits / 2), impl.MaxUnits},
		{of(impl.MaxUnits / 2), -of(impl.MaxUnits/2 + 1), impl.MaxUnits},
		{-inf, inf, impl.MaxUnits}, {-great, great, impl.MaxUnits}, {0, inf, impl.MaxUnits}, {1, -1, impl.MaxUnits},
	} {
		one, first := impl.UnitsApart(c.a, c.b)
		two, second := impl.UnitsApart(c.b, c.a)
		want(t, "UnitsApart", [4]int64{one, first, two, second}, [4]int64{c.want, impl.OK, c.want, impl.OK})
	}
	for _, c := range []struct {
		a, b float32
		want int64
	}{
		{0, 0, 0}, {0, float32(minus0), 0}, {0, 0x1p-149, 1}, {float32(minus0), -0x1p-149, 1}, {0x1p-149, -0x1p-149, 2},
		{1, 1 + 0x1p-23, 1}, {1, 2, 1 << 23}, {math.MaxFloat32, float32(inf), 1}, {float32(inf), float32(inf), 0},
		{0, float32(inf), 0x7f800000}, {float32(-inf), float32(inf), 2 * 0x7f800000}, {-math.MaxFloat32, math.MaxFloat32, 2*0x7f800000 - 2},
	} {
		one, first := impl.NarrowUnitsApart(c.a, c.b)
		two, second := impl.NarrowUnitsApart(c.b, c.a)
		want(t, "NarrowUnitsApart", [4]int64{one, first, two, second}, [4]int64{c.want, impl.OK, c.want, impl.OK})
	}
}

func TestPromise3UnitsOfNaN(t *testing.T) {
	for _, a := range anyReals() {
		for _, n := range []float64{nan, otherNaN} {
			one, first := impl.UnitsApart(a, n)
			two, second := impl.UnitsApart(n, a)
			want(t, "UnitsApart", [4]int64{one, first, two, second}, [4]int64{0, impl.ErrRange, 0, impl.ErrRange})
			one, first = impl.NarrowUnitsApart(float32(a), float32(n))
			two, second = impl.NarrowUnitsApart(float32(n), float32(a))
			want(t, "NarrowUnitsApart", [4]int64{one, first, two, second}, [4]int64{0, impl.ErrRange, 0, impl.ErrRange})
		}
	}
}

// TestPromise3StepsAddUp walks through the order of the numbers.
func TestPromise3StepsAddUp(t *testing.T) {
	for _, a := range anyReals() {
		if math.IsNaN(a) {
			continue
		}
		b, c := a, float32(a)
		for step := int64(1); step <= 5 && !math.IsInf(b, 1); step++ {
			before := b
			b = impl.NextUp(b)
			want(t, "NextUp is greater", b > before, true)
			apart, _ := impl.UnitsApart(a, b)
			want(t, "steps from the first", apart, step)
		}
		for step := int64(1); step <= 5 && c < float32(inf); step++ {
			c = impl.NextUpNarrow(c)
			apart, _ := impl.NarrowUnitsApart(float32(a), c)
			want(t, "narrow steps from the first", apart, step)
		}
	}
}

func TestPromise3BitsTexts(t *testing.T) {
	for _, c := range []struct {
		x    complex128
		text string
	}{
		{1, "3ff0000000000000 0000000000000000"},
		{complex(minus0, -2), "8000000000000000 c000000000000000"},
		{complex(inf, -inf), "7ff0000000000000 fff0000000000000"},
		{complex(least, great), "0000000000000001 7fefffffffffffff"},
		{complex(nan, 0.1), "nan 3fb999999999999a"},
		{complex(-1, otherNaN), "bff0000000000000 nan"},
		{complex(-nan, otherNaN), "nan nan"},
	} {
		want(t, "BitsText", impl.BitsText(c.x), c.text)
		got, code := impl.ReadBits(c.text)
		wantSignal(t, "ReadBits "+c.text, []complex128{got}, code, c.x)
	}
	for _, c := range []struct {
		x    complex64
		text string
	}{
		{1, "3f800000 00000000"},
		{complex64(complex(minus0, -2)), "80000000 c0000000"},
		{complex64(complex(inf, -inf)), "7f800000 ff800000"},
		{complex(0x1p-149, math.MaxFloat32), "00000001 7f7fffff"},
		{complex64(complex(nan, 0.1)), "nan 3dcccccd"},
		{complex64(complex(-1, nan)), "bf800000 nan"},
		{complex(math.Float32frombits(0xffc00001), math.Float32frombits(0x7f800001)), "nan nan"},
	} {
		want(t, "NarrowBitsText", impl.NarrowBitsText(c.x), c.text)
		got, code := impl.ReadNarrowBits(c.text)
		wantSignal(t, "ReadNarrowBits "+c.text, []complex128{complex128(got)}, code, complex128(c.x))
	}
}

func TestPromise3TextsGiveNumbersBack(t *testing.T) {
	for _, x := range append(drawnNumbers(500), anyNumbers()...) {
		got, code := impl.ReadBits(impl.BitsText(x))
		wantSignal(t, "ReadBits", []complex128{got}, code, x)
		narrow := complex64(x)
		back, code := impl.ReadNarrowBits(impl.NarrowBitsText(narrow))
		wantSignal(t, "ReadNarrowBits", []complex128{complex128(back)}, code, complex128(narrow))
	}
}

func TestPromise3TextsThatAreNone(t *testing.T) {
	wide, narrow := "3ff0000000000000", "3f800000"
	for _, one := range []string{wide, narrow} {
		for _, text := range []string{
			"", " ", one, one + " ", " " + one, one + one, "nan", "nan ", " nan", "nannan", "nan nan ", " nan nan",
			one + "  " + one, one + "\t" + one, one + "\n" + one, one + "," + one, one + "_" + one, one + "\u00a0" + one,
			one + " " + one + " ", one + " " + one + "\n", " " + one + " " + one, one + " " + one + " " + one,
			one + " " + one[1:], one[1:] + " " + one, one + " 0" + one, "0" + one + " " + one,
			one + " " + strings.ToUpper(one), strings.ToUpper(one) + " " + one, one + " NaN", "NAN nan", "nan Nan", "-nan nan", "+nan nan",
			one + " +" + one[1:], "-" + one[1:] + " " + one, one + " 0x" + one[2:], one + " " + one[:3] + "_" + one[4:], one + " " + one[:3] + "g" + one[4:],
			one + " " + one[:3] + "/" + one[4:], one + " " + one[:3] + ":" + one[4:], one + " " + one[:3] + "`" + one[4:], one + " " + one[:3] + "\x00" + one[4:],
			one + " " + one[:2] + "\u0660" + one[4:], "inf inf", "1 0", one + " 0",
		} {
			_, code := impl.ReadBits(text)
			want(t, "ReadBits "+text, code, impl.ErrSyntax)
			_, code = impl.ReadNarrowBits(text)
			want(t, "ReadNarrowBits "+text, code, impl.ErrSyntax)
		}
	}
	for _, bits := range []string{"7ff8000000000000", "7ff0000000000001", "fff8000000000000", "ffffffffffffffff", "7fffffffffffffff", "7FF0000000000000"} {
		x, one := impl.ReadBits(bits + " " + wide)
		y, two := impl.ReadBits(wide + " " + bits)
		wantSame(t, "number with an error", x, 0)
		wantSame(t, "number with an error", y, 0)
		want(t, "bits of NaN", [2]int64{one, two}, [2]int64{impl.ErrSyntax, impl.ErrSyntax})
	}
	for _, bits := range []string{"7fc00000", "7f800001", "ffc00000", "ffffffff", "7fffffff", "7F800000", wide} {
		x, one := impl.ReadNarrowBits(bits + " " + narrow)
		y, two := impl.ReadNarrowBits(narrow + " " + bits)
		wantSame(t, "narrow number with an error", complex128(x), 0)
		wantSame(t, "narrow number with an error", complex128(y), 0)
		want(t, "narrow bits of NaN", [2]int64{one, two}, [2]int64{impl.ErrSyntax, impl.ErrSyntax})
	}
	_, code := impl.ReadBits(narrow + " " + narrow)
	want(t, "narrow text read as a wide one", code, impl.ErrSyntax)
}

func TestPromise3AddAndScale(t *testing.T) {
	x := []complex128{1 + 2i, complex(inf, minus0), complex(nan, great), complex(minus0, 0x1p-53)}
	y := []complex128{3 - 1i, complex(-inf, minus0), complex(1, great), complex(minus0, 1)}
	got, code := impl.AddSignals(x, y)
	wantSignal(t, "AddSignals", got, code, 4+1i, complex(nan, minus0), complex(nan, inf), complex(minus0, 1))
	by := complex(0.1, -3)
	got, code = impl.ScaleSignal(x, by)
	wantSignal(t, "ScaleSignal", got, code, toldProduct(x[0], by), toldProduct(x[1], by), toldProduct(x[2], by), toldProduct(x[3], by))
	got, code = impl.ScaleSignal([]complex128{complex(1+0x1p-30, 1+0x1p-30)}, complex(1+0x1p-30, 1+0x1p-30))
	wantSignal(t, "ScaleSignal rounds products", got, code, complex(0, 2+0x1p-28))
	got, code = impl.ScaleSignal([]complex128{-1}, 0)
	wantSignal(t, "ScaleSignal by 0", got, code, complex(minus0, 0))
}

func TestPromise3Sums(t *testing.T) {
	for _, c := range []struct {
		x      []complex128
		sum    complex128
		energy float64
	}{
		{[]complex128{1 + 2i, 3 + 4i}, 4 + 6i, 30},
		{[]complex128{complex(minus0, minus0)}, complex(minus0, minus0), 0},
		{[]complex128{complex(minus0, minus0), complex(minus0, 0)}, complex(minus0, 0), 0},
		{[]complex128{0x1p500, 1, -0x1p500}, 0, 0x1p1001},
		{[]complex128{0x1p500, -0x1p500, 1}, 1, 0x1p1001},
		{[]complex128{1, 0x1p-53, 0x1p-53}, 1, 1},
		{[]complex128{0x1p-53, 0x1p-53, 1}, 1 + 0x1p-52, 1},
		{[]complex128{complex(inf, 1), complex(-inf, nan)}, complex(nan, nan), nan},
		{[]complex128{complex(great, 1), complex(great, 2)}, complex(inf, 3), inf},
		{[]complex128{complex(1+0x1p-30, 0x1p-30)}, complex(1+0x1p-30, 0x1p-30), 1 + 0x1p-29 + 0x1p-60},
	} {
		s, code := impl.SumOf(c.x)
		wantSignal(t, "SumOf", []complex128{s}, code, c.sum)
		e, code := impl.EnergyOf(c.x)
		wantSignal(t, "EnergyOf", []complex128{complex(e, 0)}, code, complex(c.energy, 0))
	}
	e, code := impl.EnergyOf([]complex128{1, 0x1p-27, 0x1p-27})
	wantSignal(t, "EnergyOf from left to right", []complex128{complex(e, 0)}, code, 1)
}

func TestPromise3Dots(t *testing.T) {
	list := drawnNumbers(impl.MaxSignal * 2)
	x, y := list[:impl.MaxSignal], list[impl.MaxSignal:]
	told := toldProduct(x[0], impl.Conjugate(y[0]))
	energy := real(toldProduct(x[0], impl.Conjugate(x[0])))
	for i := 1; i < len(x); i++ {
		p := toldProduct(x[i], impl.Conjugate(y[i]))
		told = complex(sum(real(told), real(p)), sum(imag(told), imag(p)))
		energy = sum(energy, real(toldProduct(x[i], impl.Conjugate(x[i]))))
	}
	got, code := impl.DotOf(x, y)
	wantSignal(t, "DotOf", []complex128{got}, code, told)
	e, code := impl.EnergyOf(x)
	wantSignal(t, "EnergyOf", []complex128{complex(e, 0)}, code, complex(energy, 0))
	own, code := impl.DotOf(x, x)
	wantSignal(t, "DotOf a signal with itself", []complex128{own}, code, complex(energy, 0))
	got, code = impl.DotOf([]complex128{1i}, []complex128{1})
	wantSignal(t, "DotOf takes the conjugate of y", []complex128{got}, code, 1i)
	got, code = impl.DotOf([]complex128{1}, []complex128{1i})
	wantSignal(t, "DotOf takes the conjugate of y", []complex128{got}, code, -1i)
	got, code = impl.DotOf([]complex128{-1}, []complex128{complex(0, minus0)})
	wantSignal(t, "DotOf begins with the first number", []complex128{got}, code, complex(minus0, 0))
	got, code = impl.DotOf([]complex128{complex(inf, 0)}, []complex128{1})
	wantSignal(t, "DotOf infinity", []complex128{got}, code, complex(inf, nan))
}

func TestPromise3NarrowAndWideSignals(t *testing.T) {
	x := anyNumbers()[:impl.MaxSignal]
	narrow, code := impl.NarrowSignal(x)
	want(t, "NarrowSignal", len(narrow), len(x))
	want(t, "NarrowSignal", code, impl.OK)
	for i := range narrow {
		wantSame(t, "NarrowSignal", complex128(narrow[i]), complex(float64(float32(real(x[i]))), float64(float32(imag(x[i])))))
	}
	wide, code := impl.WidenSignal(narrow)
	wantSignal(t, "WidenSignal", wide, code, slices.Collect(func(yield func(complex128) bool) {
		for _, each := range narrow {
			if !yield(complex128(each)) {
				return
			}
		}
	})...)
}

func TestPromise3SameSignals(t *testing.T) {
	x := anyNumbers()
	y := slices.Clone(x)
	want(t, "long and same", impl.SameSignals(x, y), true)
	want(t, "other lengths", impl.SameSignals(x, y[1:]), false)
	want(t, "other lengths", impl.SameSignals(x[:5], y), false)
	want(t, "nothing and something", impl.SameSignals(nil, y[:1]), false)
	for i := range y {
		kept := y[i]
		y[i] = complex(real(kept), imag(kept)+1)
		if sameReal(imag(kept), imag(y[i])) {
			y[i] = complex(real(kept), -2)
		}
		want(t, "one number differs", impl.SameSignals(x, y), false)
		y[i] = kept
	}
	want(t, "0 and -0", impl.SameSignals([]complex128{0}, []complex128{complex(0, minus0)}), false)
	want(t, "all NaN are the same", impl.SameSignals([]complex128{complex(nan, 1)}, []complex128{complex(otherNaN, 1)}), true)
}

func TestPromise3IsWithin(t *testing.T) {
	up := impl.NextUp(1)
	for _, c := range []struct {
		x, y  complex128
		units int64
		want  bool
	}{
		{1, 1, 0, true}, {0, complex(minus0, minus0), 0, true}, {complex(inf, -inf), complex(inf, -inf), 0, true},
		{1, complex(up, 0), 1, true}, {1, complex(up, 0), 0, false}, {1i, complex(0, up), 1, true}, {1i, complex(0, up), 0, false},
		{complex(up, up), complex(1, impl.NextUp(up)), 1, true}, {complex(up, 1), complex(1, impl.NextUp(up)), 1, false},
		{complex(least, 0), complex(-least, 0), 2, true}, {complex(least, 0), complex(-least, 0), 1, false},
		{complex(great, 0), complex(inf, 0), 1, true}, {complex(great, 0), complex(inf, 0), 0, false},
		{complex(-inf, 0), complex(inf, 0), impl.MaxUnits, true}, {complex(-inf, 0), complex(inf, 0), impl.MaxUnits - 1, false},
		{complex(-inf, 0), complex(inf, 0), math.MaxInt64, true},
		{complex(nan, 0), complex(nan, 0), math.MaxInt64, false}, {complex(0, nan), complex(0, nan), impl.MaxUnits, false},
		{complex(nan, 0), 0, math.MaxInt64, false}, {0, complex(0, nan), math.MaxInt64, false},
	} {
		for _, pair := range [][2]complex128{{c.x, c.y}, {c.y, c.x}} {
			is, code := impl.IsWithin([]complex128{5, pair[0]}, []complex128{5, pair[1]}, c.units)
			want(t, "IsWithin", is, c.want)
			want(t, "IsWithin", code, impl.OK)
			is, _ = impl.IsWithin([]complex128{pair[0], 5}, []complex128{pair[1], 5}, c.units)
			want(t, "IsWithin at the first place", is, c.want)
		}
	}
	two := []complex128{1, 2}
	for _, c := range []struct {
		x, y  []complex128
		units int64
	}{{two, two, -1}, {two, two, math.MinInt64}, {nil, nil, -1}, {two, two[:1], 5}, {nil, two, 5}, {two, nil, -1}} {
		is, code := impl.IsWithin(c.x, c.y, c.units)
		want(t, "IsWithin with an error", is, false)
		want(t, "IsWithin with an error", code, impl.ErrRange)
	}
}

func TestPromise3LimitComesFirst(t *testing.T) {
	full, over := make([]complex128, impl.MaxSignal), make([]complex128, impl.MaxSignal+1)
	full[0], over[0] = 1+1i, 1+1i
	short := full[:3]
	for _, c := range []struct {
		x, y []complex128
		code int64
	}{
		{full, full, impl.OK}, {over, over, impl.ErrLimit}, {over, short, impl.ErrLimit}, {short, over, impl.ErrLimit},
		{over, nil, impl.ErrLimit}, {nil, over, impl.ErrLimit}, {full, over, impl.ErrLimit},
		{full, short, impl.ErrRange}, {short, full, impl.ErrRange}, {nil, short, impl.ErrRange}, {short, nil, impl.ErrRange},
	} {
		added, code := impl.AddSignals(c.x, c.y)
		want(t, "AddSignals", code, c.code)
		want(t, "AddSignals with an error", len(added) != 0, c.code == impl.OK)
		dot, code := impl.DotOf(c.x, c.y)
		want(t, "DotOf", code, c.code)
		want(t, "DotOf with an error", dot != 0, c.code == impl.OK)
		is, code := impl.IsWithin(c.x, c.y, 0)
		want(t, "IsWithin", code, c.code)
		want(t, "IsWithin with an error", is, c.code == impl.OK)
	}
	_, code := impl.IsWithin(over, short, -1)
	want(t, "IsWithin of a long signal, other lengths and negative units", code, impl.ErrLimit)
	wantLimit(t, full, impl.OK)
	wantLimit(t, over, impl.ErrLimit)
	want(t, "SameSignals has no limit", impl.SameSignals(over, slices.Clone(over)), true)
}

// wantLimit asks the functions of one signal whose first number is not 0.
func wantLimit(t *testing.T, x []complex128, want int64) {
	t.Helper()
	scaled, one := impl.ScaleSignal(x, 2)
	s, two := impl.SumOf(x)
	e, three := impl.EnergyOf(x)
	narrow, four := impl.NarrowSignal(x)
	wide, five := impl.WidenSignal(narrowed(x))
	for _, code := range []int64{one, two, three, four, five} {
		if code != want {
			t.Errorf("%d numbers: got code %d, want %d", len(x), code, want)
		}
	}
	for _, told := range []bool{len(scaled) != 0, s != 0, e != 0, len(narrow) != 0, len(wide) != 0} {
		if told != (want == impl.OK) {
			t.Errorf("%d numbers: results do not fit to code %d", len(x), want)
		}
	}
}
