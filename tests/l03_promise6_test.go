package tests

import (
	"fmt"
	"math"
	"slices"
	"strings"
	"testing"

	"loop.example/g01155/impl"
)

func realBits(list []float64) string {
	var bits []string
	for _, a := range list {
		bits = append(bits, strings.Fields(impl.BitsText(complex(a, 0)))[0])
	}
	return strings.Join(bits, " ")
}

func TestPromise6BitsOfWindows(t *testing.T) {
	for _, c := range []struct {
		kind, n int64
		bits    string
	}{
		{impl.WdRect, 1, "3ff0000000000000"},
		{impl.WdRect, 3, "3ff0000000000000 3ff0000000000000 3ff0000000000000"},
		{impl.WdTriangle, 1, "0000000000000000"},
		{impl.WdTriangle, 2, "0000000000000000 3ff0000000000000"},
		{impl.WdTriangle, 3, "0000000000000000 3fe5555555555555 3fe5555555555556"},
		{impl.WdTriangle, 5, "0000000000000000 3fd999999999999a 3fe999999999999a 3fe999999999999a 3fd9999999999998"},
		{impl.WdTriangle, 8, "0000000000000000 3fd0000000000000 3fe0000000000000 3fe8000000000000 3ff0000000000000 3fe8000000000000 3fe0000000000000 3fd0000000000000"},
		{impl.WdHann, 1, "0000000000000000"},
		{impl.WdHann, 2, "0000000000000000 3ff0000000000000"},
		{impl.WdHann, 3, "0000000000000000 3fe8000000000000 3fe8000000000000"},
		{impl.WdHann, 5, "0000000000000000 3fd61c8864680b58 3fecf1bbcdcbfa54 3fecf1bbcdcbfa54 3fd61c8864680b58"},
		{impl.WdHann, 8, "0000000000000000 3fc2bec333018866 3fe0000000000000 3feb504f333f9de6 3ff0000000000000 3feb504f333f9de6 3fe0000000000000 3fc2bec333018866"},
		{impl.WdHamming, 1, "3fb47ae147ae147c"},
		{impl.WdHamming, 2, "3fb47ae147ae147c 3ff0000000000000"},
		{impl.WdHamming, 5, "3fb47ae147ae147c 3fd976690036c2c2 3fed30509e9cf08b 3fed30509e9cf08b 3fd976690036c2c2"},
		{impl.WdHamming, 8, "3fb47ae147ae147c 3fcb7c4d2eecee22 3fe147ae147ae148 3febb048dd3a8708 3ff0000000000000 3febb048dd3a8708 3fe147ae147ae148 3fcb7c4d2eecee22"},
		{impl.WdSine, 1, "0000000000000000"},
		{impl.WdSine, 3, "0000000000000000 3febb67ae8584caa 3febb67ae8584caa"},
		{impl.WdSine, 5, "0000000000000000 3fe2cf2304755a5e 3fee6f0e134454ff 3fee6f0e134454ff 3fe2cf2304755a5e"},
		{impl.WdSine, 8, "0000000000000000 3fd87de2a6aea962 3fe6a09e667f3bcd 3fed906bcf328d46 3ff0000000000000 3fed906bcf328d46 3fe6a09e667f3bcd 3fd87de2a6aea962"},
		{impl.WdBlackman, 1, "bc70000000000000"},
		{impl.WdBlackman, 2, "bc70000000000000 3fefffffffffffff"},
		{impl.WdBlackman, 5, "bc70000000000000 3fc9b2d607a9b3ec 3feb2ce417af2c9e 3feb2ce417af2c9e 3fc9b2d607a9b3ec"},
		{impl.WdBlackman, 8, "bc70000000000000 3fb102a51e54fc50 3fd5c28f5c28f5c2 3fe8c0f30a49db57 3fefffffffffffff 3fe8c0f30a49db57 3fd5c28f5c28f5c2 3fb102a51e54fc50"},
	} {
		w, code := impl.WindowOf(c.kind, c.n)
		name := fmt.Sprintf("WindowOf %d and %d", c.kind, c.n)
		want(t, name, realBits(w), c.bits)
		want(t, name, code, impl.OK)
	}
}

// TestPromise6BitsOfManyWindows holds them against a program outside of this
// one; GainOf, PowerOf and NarrowWindow are held against it as well.
func TestPromise6BitsOfManyWindows(t *testing.T) {
	hashes := map[int64]uint64{
		impl.WdRect: 0x309f307ff76fc325, impl.WdTriangle: 0x9ce7e5e9e1e581b, impl.WdHann: 0x2370d0e580d49cc1,
		impl.WdHamming: 0x6cccfc3bbd8d9d31, impl.WdSine: 0x5acc1c7258b506a1, impl.WdBlackman: 0xb734f04ecb68b2e5,
	}
	eachWindow := func(kind int64, visit func(w []float64)) {
		for n := int64(1); n <= impl.MaxSignal; n++ {
			w, _ := impl.WindowOf(kind, n)
			visit(w)
		}
	}
	for kind, hash := range hashes {
		got := hashOf(func(yield func(string) bool) {
			eachWindow(kind, func(w []float64) { wideLines(yield, complexOf(w)) })
		})
		want(t, fmt.Sprintf("hash of windows of kind %d", kind), got, hash)
	}
	got := hashOf(func(yield func(string) bool) {
		for _, kind := range allKinds() {
			eachWindow(kind, func(w []float64) {
				gain, _ := impl.GainOf(w)
				power, _ := impl.PowerOf(w)
				wideLines(yield, []complex128{complex(gain, power)})
			})
		}
	})
	want(t, "hash of gains and powers", got, 0xdea7ee15fb6b2f77)
	got = hashOf(func(yield func(string) bool) {
		for _, kind := range allKinds() {
			eachWindow(kind, func(w []float64) {
				narrow, _ := impl.NarrowWindow(w)
				narrowLines(yield, narrowComplexOf(narrow))
			})
		}
	})
	want(t, "hash of narrow windows", got, 0xeeeb836f72a7245)
}

func narrowComplexOf(w []float32) []complex64 {
	var list []complex64
	for _, a := range w {
		list = append(list, complex(a, 0))
	}
	return list
}

func TestPromise6BitsOfManySums(t *testing.T) {
	eachHop := func(visit func(w []float64, hop int64)) {
		for _, kind := range allKinds() {
			for _, n := range []int64{1, 2, 3, 5, 8, 12, 31, 64, 100, 256} {
				w, _ := impl.WindowOf(kind, n)
				for hop := int64(1); hop <= n; hop++ {
					visit(w, hop)
				}
			}
		}
	}
	got := hashOf(func(yield func(string) bool) {
		eachHop(func(w []float64, hop int64) {
			sums, _ := impl.OverlapSums(w, hop)
			wideLines(yield, complexOf(sums))
		})
	})
	want(t, "hash of sums over hops", got, 0x9afc72c144c4aa11)
	got = hashOf(func(yield func(string) bool) {
		eachHop(func(w []float64, hop int64) {
			ripple, _ := impl.RippleOf(w, hop)
			flat, _ := impl.FlatWindow(w, hop)
			wideLines(yield, complexOf(append([]float64{ripple}, flat...)))
		})
	})
	want(t, "hash of ripples and flat windows", got, 0x8de87ad381c0913f)
}

func TestPromise6WindowsByTheirRules(t *testing.T) {
	for _, kind := range allKinds() {
		for _, n := range []int64{1, 2, 3, 4, 5, 6, 7, 8, 12, 15, 16, 30, 64, 97, 128, 255, 256} {
			w, code := impl.WindowOf(kind, n)
			wantReals(t, fmt.Sprintf("WindowOf %d and %d", kind, n), w, code, toldWindow(kind, n)...)
		}
	}
}

// TestPromise6WindowsAreNearTheirFormulas uses cosines that are not told.
func TestPromise6WindowsAreNearTheirFormulas(t *testing.T) {
	for _, n := range []int64{1, 2, 7, 64, 100, 255, 256} {
		for _, kind := range allKinds() {
			w, _ := impl.WindowOf(kind, n)
			for i, got := range w {
				x := 2 * math.Pi * float64(i) / float64(n)
				hann := (1 - math.Cos(x)) / 2
				formulas := map[int64]float64{
					impl.WdRect: 1, impl.WdTriangle: 1 - math.Abs(2*float64(i)/float64(n)-1), impl.WdHann: hann,
					impl.WdHamming: 0.54 - 0.46*math.Cos(x), impl.WdSine: math.Sqrt(hann),
					impl.WdBlackman: 0.42 - 0.5*math.Cos(x) + 0.08*math.Cos(2*x),
				}
				want(t, fmt.Sprintf("number %d of window %d of %d is near", i, kind, n), math.Abs(got-formulas[kind]) < 1e-12, true)
			}
		}
	}
}

func TestPromise6WindowsThatAreNone(t *testing.T) {
	for _, c := range []struct{ kind, n int64 }{
		{0, 4}, {7, 4}, {-1, 4}, {1 << 32, 4}, {1<<32 + 1, 4}, {math.MinInt64, 4}, {math.MaxInt64, 4},
		{impl.WdRect, 0}, {impl.WdRect, -1}, {impl.WdHann, impl.MaxSignal + 1}, {impl.WdSine, math.MaxInt64}, {impl.WdBlackman, math.MinInt64},
		{0, 0}, {7, 257},
	} {
		w, code := impl.WindowOf(c.kind, c.n)
		wantCode(t, fmt.Sprintf("WindowOf %d and %d", c.kind, c.n), w, code, impl.ErrRange)
	}
	for _, kind := range allKinds() {
		for _, n := range []int64{1, impl.MaxSignal} {
			w, code := impl.WindowOf(kind, n)
			want(t, "WindowOf", [2]int64{int64(len(w)), code}, [2]int64{n, impl.OK})
		}
	}
}

// oddWindows have sums that tell the order in which they are made.
func oddWindows() [][]float64 {
	third := 1.0 / 3
	return [][]float64{
		{minus0}, {minus0, minus0}, {minus0, 0}, {0.1, 0.2, 0.3, 0.4, -0.5, 0.7}, {1e16, 1, -1e16, 1}, {1, 1e16, 1, -1e16},
		{inf, 1, -inf}, {nan, 1}, {1, nan}, {-inf, 2}, {great, great, -great}, {least, least, -third}, {third, third, third, third, third, third},
		{1e-170, 1e-160, 1e160, 1}, {otherNaN, minus0, 3, 4, 5, inf, 7, minus0, minus0},
		{1 + math.Ldexp(1, -30), -1 - math.Ldexp(1, -30), math.Ldexp(1, -60), 3},
	}
}

func TestPromise6GainsAndPowers(t *testing.T) {
	for _, w := range oddWindows() {
		gain, code := impl.GainOf(w)
		wantReals(t, fmt.Sprint("GainOf ", w), []float64{gain}, code, toldSum(w))
		power, code := impl.PowerOf(w)
		var squares []float64
		for _, a := range w {
			squares = append(squares, product(a, a))
		}
		wantReals(t, fmt.Sprint("PowerOf ", w), []float64{power}, code, toldSum(squares))
	}
	gain, code := impl.GainOf([]float64{minus0, minus0})
	wantReals(t, "GainOf -0 and -0", []float64{gain}, code, minus0)
	power, code := impl.PowerOf([]float64{minus0, minus0})
	wantReals(t, "PowerOf -0 and -0", []float64{power}, code, 0)
	gain, code = impl.GainOf([]float64{1e16, 1, -1e16, 1})
	wantReals(t, "GainOf numbers in order", []float64{gain}, code, 1)
}

// TestPromise6SquaresAreRoundedFirst has a square of which a fused sum would
// keep what decides a tie.
func TestPromise6SquaresAreRoundedFirst(t *testing.T) {
	a, part := 1+math.Ldexp(1, -30), math.Ldexp(1, -27)
	want(t, "a fused sum is another one", math.FMA(a, a, part*part+part*part) != product(a, a), true)
	power, code := impl.PowerOf([]float64{part, part, a})
	wantReals(t, "PowerOf", []float64{power}, code, 1+math.Ldexp(1, -29))
}

func TestPromise6ApplyWindow(t *testing.T) {
	for _, by := range anyReals() {
		numbers := anyNumbers()
		for len(numbers) > 0 {
			x := numbers[:min(len(numbers), impl.MaxSignal)]
			numbers = numbers[len(x):]
			w := slices.Repeat([]float64{by}, len(x))
			got, code := impl.ApplyWindow(x, w)
			wantSignal(t, fmt.Sprint("ApplyWindow by ", by), got, code, toldApplied(x, w)...)
		}
	}
	x := []complex128{complex(1, -2), complex(0, minus0), complex(inf, 1), 3 + 4i, 5}
	got, code := impl.ApplyWindow(x, []float64{-3, -1, 0, inf, nan})
	wantSignal(t, "ApplyWindow", got, code, complex(-3, 6), complex(minus0, 0), complex(nan, 0), complex(inf, inf), complex(nan, nan))
	got, code = impl.ApplyWindow([]complex128{1, 2, 3}, []float64{10, 100, 1000})
	wantSignal(t, "ApplyWindow, number by number", got, code, 10, 200, 3000)
}

func TestPromise6NarrowWindow(t *testing.T) {
	for _, a := range anyReals() {
		got, code := impl.NarrowWindow([]float64{1, a})
		want(t, "NarrowWindow", [2]int64{int64(len(got)), code}, [2]int64{2, impl.OK})
		wantSameReal(t, fmt.Sprint("NarrowWindow of ", a), float64(got[1]), float64(float32(a)))
	}
	got, _ := impl.NarrowWindow([]float64{0.1, 1e300, -1e-300, 16777217, 16777219})
	want(t, "NarrowWindow", fmt.Sprint(got), "[0.1 +Inf -0 1.6777216e+07 1.677722e+07]")
}

// someNarrow are parts with products at and around the borders of the width.
func someNarrow() []float32 {
	list := []float32{0, 1, 3, 0.1, 1 + 1.0/(1<<23), 1 + 1.0/(1<<12), 1 - 1.0/(1<<24), 1e-23, 1.1e-19, 1e-38, 1e-45, 3e-45, 1e19, 2e19, math.MaxFloat32, float32(inf)}
	for _, a := range list {
		list = append(list, -a)
	}
	return append(list, float32(nan))
}

func TestPromise6ApplyNarrowWindow(t *testing.T) {
	for _, by := range someNarrow() {
		var x []complex64
		var expected []complex128
		for _, a := range someNarrow() {
			x = append(x, complex(a, -by))
			once, twice := float32(product(float64(a), float64(by))), float32(product(float64(-by), float64(by)))
			expected = append(expected, complex(float64(once), float64(twice)))
		}
		got, code := impl.ApplyNarrowWindow(x, slices.Repeat([]float32{by}, len(x)))
		wantSignal(t, fmt.Sprint("ApplyNarrowWindow by ", by), widened(got), code, expected...)
	}
	got, code := impl.ApplyNarrowWindow([]complex64{16777217, 0.1 + 0.3i}, []float32{1, 0.1})
	wantSignal(t, "ApplyNarrowWindow", widened(got), code, 16777216, complex128(complex64(0.010000001+0.030000001i)))
}

// TestPromise6NarrowWidthDoesWhatTheWideOneDoes applies windows that are
// narrow numbers in both widths.
func TestPromise6NarrowWidthDoesWhatTheWideOneDoes(t *testing.T) {
	hold := func(x []complex64, narrow []float32) {
		t.Helper()
		var w []float64
		for _, a := range narrow {
			w = append(w, float64(a))
		}
		got, code := impl.ApplyNarrowWindow(x, narrow)
		inWide, _ := impl.WidenSignal(x)
		inWide, _ = impl.ApplyWindow(inWide, w)
		expected, _ := impl.NarrowSignal(inWide)
		wantSignal(t, "ApplyNarrowWindow", widened(got), code, widened(expected)...)
	}
	for _, kind := range allKinds() {
		for _, n := range []int64{1, 2, 3, 8, 31, 256} {
			w, _ := impl.WindowOf(kind, n)
			narrow, _ := impl.NarrowWindow(w)
			hold(narrowed(drawnNumbers(int(n))), narrow)
			hold(narrowed(ruledSignal(int(n))), narrow)
		}
	}
	for _, by := range someNarrow() {
		for _, a := range someNarrow() {
			hold([]complex64{complex(a, by), complex(by, -a)}, []float32{by, a})
		}
	}
}

func TestPromise6BitsOfNarrowSignals(t *testing.T) {
	got := hashOf(func(yield func(string) bool) {
		for _, kind := range allKinds() {
			for n := int64(1); n <= 64; n++ {
				w, _ := impl.WindowOf(kind, n)
				narrow, _ := impl.NarrowWindow(w)
				applied, _ := impl.ApplyNarrowWindow(narrowed(ruledSignal(int(n))), narrow)
				narrowLines(yield, applied)
			}
		}
	})
	want(t, "hash of narrow windowed signals", got, 0x6daf2be033d26848)
}

func TestPromise6SumsOverHops(t *testing.T) {
	for _, w := range oddWindows() {
		for hop := 1; hop <= len(w); hop++ {
			terms := make([][]float64, hop)
			for i, a := range w {
				terms[i%hop] = append(terms[i%hop], a)
			}
			var sums, flat []float64
			for i := range hop {
				sums = append(sums, toldSum(terms[i]))
			}
			for i, a := range w {
				flat = append(flat, quotient(a, sums[i%hop]))
			}
			name := fmt.Sprintf(" of %v and %d", w, hop)
			got, code := impl.OverlapSums(w, int64(hop))
			wantReals(t, "OverlapSums"+name, got, code, sums...)
			got, code = impl.FlatWindow(w, int64(hop))
			wantReals(t, "FlatWindow"+name, got, code, flat...)
		}
	}
}

func TestPromise6Ripples(t *testing.T) {
	for _, c := range []struct {
		w    []float64
		hop  int64
		want float64
	}{
		{[]float64{1, 2, 3, 4}, 4, 3}, {[]float64{4, 3, 2, 1}, 4, 3}, {[]float64{2, 9, -1, 4}, 4, 10}, {[]float64{1, 2, 3, 4}, 2, 2},
		{[]float64{1, 2, 3, 4}, 1, 0}, {[]float64{0.3, 0.1, 0.2}, 3, 0.3 - float64(0.1)}, {[]float64{5}, 1, 0}, {[]float64{minus0}, 1, 0},
		{[]float64{0, minus0}, 2, 0}, {[]float64{minus0, 0}, 2, 0}, {[]float64{nan, 1, 5}, 3, nan}, {[]float64{1, nan, 5}, 3, 4},
		{[]float64{1, 5, nan}, 3, 4}, {[]float64{inf}, 1, nan}, {[]float64{1, inf}, 2, inf}, {[]float64{-inf, 1}, 2, inf},
		{[]float64{inf, -inf}, 2, inf}, {[]float64{inf, -inf}, 1, nan}, {[]float64{great, -great}, 2, inf},
	} {
		got, code := impl.RippleOf(c.w, c.hop)
		wantReals(t, fmt.Sprintf("RippleOf %v and %d", c.w, c.hop), []float64{got}, code, c.want)
	}
	a, b := 0.1, 0.3
	got, code := impl.RippleOf([]float64{a, b}, 2)
	wantReals(t, "RippleOf is rounded", []float64{got}, code, sum(b, -a))
}

func TestPromise6FlatWindows(t *testing.T) {
	flat, code := impl.FlatWindow([]float64{1, 0, 3, minus0, 4, nan}, 2)
	wantReals(t, "FlatWindow", flat, code, 0.125, nan, 0.375, nan, 0.5, nan)
	flat, code = impl.FlatWindow([]float64{1, 1, -1, inf}, 2)
	wantReals(t, "FlatWindow over 0 and infinity", flat, code, inf, 0, -inf, nan)
	for _, kind := range []int64{impl.WdRect, impl.WdHamming} {
		for _, n := range []int64{1, 2, 3, 8, 31, 64, 256} {
			w, _ := impl.WindowOf(kind, n)
			for _, hop := range someHops(n) {
				flat, _ := impl.FlatWindow(w, hop)
				sums, _ := impl.OverlapSums(flat, hop)
				for _, got := range sums {
					want(t, "a sum of a flat window is near 1", math.Abs(got-1) < 1e-13, true)
				}
			}
		}
	}
}

// windowCodes are the codes of the functions of a window alone, and whether
// something is told.
func windowCodes(w []float64) ([3]int64, bool) {
	gain, one := impl.GainOf(w)
	power, two := impl.PowerOf(w)
	narrow, three := impl.NarrowWindow(w)
	return [3]int64{one, two, three}, gain != 0 || power != 0 || len(narrow) != 0
}

func TestPromise6LongWindows(t *testing.T) {
	full, over := slices.Repeat([]float64{1}, impl.MaxSignal), slices.Repeat([]float64{1}, impl.MaxSignal+1)
	codes, told := windowCodes(full)
	want(t, "codes of 256 numbers", codes, [3]int64{})
	want(t, "something is told of 256 numbers", told, true)
	codes, told = windowCodes(over)
	want(t, "codes of 257 numbers", codes, [3]int64{impl.ErrLimit, impl.ErrLimit, impl.ErrLimit})
	want(t, "something is told of 257 numbers", told, false)
	for _, c := range []struct {
		w    []float64
		hop  int64
		code int64
	}{
		{full, 1, impl.OK}, {full, 256, impl.OK}, {full, 257, impl.ErrRange}, {full, 0, impl.ErrRange}, {full[:3], 4, impl.ErrRange},
		{full[:3], 3, impl.OK}, {full[:3], -1, impl.ErrRange}, {nil, 0, impl.ErrRange}, {nil, 1, impl.ErrRange}, {[]float64{}, 1, impl.ErrRange},
		{over, 1, impl.ErrLimit}, {over, 0, impl.ErrLimit}, {over, 257, impl.ErrLimit}, {over, 258, impl.ErrLimit},
	} {
		sums, one := impl.OverlapSums(c.w, c.hop)
		ripple, two := impl.RippleOf(c.w, c.hop)
		flat, three := impl.FlatWindow(c.w, c.hop)
		name := fmt.Sprintf("%d numbers with the hop %d", len(c.w), c.hop)
		want(t, name, [3]int64{one, two, three}, [3]int64{c.code, c.code, c.code})
		want(t, name, [2]bool{len(sums) != 0, len(flat) != 0}, [2]bool{c.code == impl.OK, c.code == impl.OK})
		want(t, name, ripple == 0 || c.code == impl.OK, true)
	}
}

func TestPromise6ApplyErrors(t *testing.T) {
	x, w := make([]complex128, 257), make([]float64, 257)
	for _, c := range []struct {
		x, w int
		code int64
	}{
		{0, 0, impl.OK}, {256, 256, impl.OK}, {0, 1, impl.ErrRange}, {1, 0, impl.ErrRange}, {3, 4, impl.ErrRange}, {256, 255, impl.ErrRange},
		{257, 257, impl.ErrLimit}, {257, 256, impl.ErrLimit}, {256, 257, impl.ErrLimit}, {0, 257, impl.ErrLimit}, {257, 0, impl.ErrLimit},
	} {
		got, code := impl.ApplyWindow(x[:c.x], w[:c.w])
		narrowGot, narrowCode := impl.ApplyNarrowWindow(narrowed(x[:c.x]), make([]float32, c.w))
		name := fmt.Sprintf("%d numbers and a window of %d", c.x, c.w)
		want(t, name, [2]int64{code, narrowCode}, [2]int64{c.code, c.code})
		told := c.code == impl.OK && c.x > 0
		want(t, name+": told", [2]bool{len(got) != 0, len(narrowGot) != 0}, [2]bool{told, told})
	}
}
