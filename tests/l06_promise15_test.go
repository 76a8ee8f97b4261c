package tests

import (
	"fmt"
	"math"
	"slices"
	"testing"

	"loop.example/g01155/impl"
)

// numbersAround stand at all places of a circle, some of them at diagonals and
// axes, and just beside them.
func numbersAround() []complex128 {
	list := append(drawnNumbers(1000), fewNumbers()...)
	turns, _ := impl.TurnsOf(impl.MaxTurn)
	list = append(list, turns...)
	sizes := []float64{0, minus0, 1, math.Nextafter(1, 0), math.Nextafter(1, 2), least, 1e-17, 1e-8, 3, great}
	for _, a := range sizes {
		for _, b := range sizes {
			list = append(list, complex(a, b), complex(-a, b), complex(-a, -b), complex(a, -b))
		}
	}
	return list
}

func TestPromise15PhasesByTheirRules(t *testing.T) {
	all := append(numbersAround(), anyNumbers()...)
	for _, x := range all {
		wantSameReal(t, fmt.Sprint("PhaseOf ", x), impl.PhaseOf(x), toldPhase(x))
		narrow := complex64(x)
		got, expected := impl.NarrowPhaseOf(narrow), float32(toldPhase(complex128(narrow)))
		wantSameReal(t, fmt.Sprint("NarrowPhaseOf ", narrow), float64(got), float64(expected))
	}
	for x := range slices.Chunk(all, impl.MaxSignal) {
		var expected []float64
		for _, each := range x {
			expected = append(expected, toldPhase(each))
		}
		phases, code := impl.PhasesOf(x)
		wantReals(t, "PhasesOf", phases, code, expected...)
	}
}

// TestPromise15BitsOfManyPhases holds them against a program outside of this
// one.
func TestPromise15BitsOfManyPhases(t *testing.T) {
	phases := hashOfLists(func(x []complex128) [][]complex128 {
		list, _ := impl.PhasesOf(x)
		return [][]complex128{complexOf(list)}
	})
	want(t, "hash of phases", phases, 0xbf13d38a48af0a1b)
	slopes := hashOf(func(yield func(string) bool) {
		for i := 1; i <= 200; i++ {
			for j := 1; j <= i; j++ {
				wideLines(yield, []complex128{complex(impl.PhaseOf(complex(float64(i), float64(j))), 0)})
			}
		}
	})
	want(t, "hash of phases of many slopes", slopes, 0x9f00a1eb79835821)
	narrow := hashOf(func(yield func(string) bool) {
		for x := range eachBankSignal {
			var list []float32
			for _, each := range narrowed(x) {
				list = append(list, impl.NarrowPhaseOf(each))
			}
			narrowLines(yield, narrowComplexOf(list))
		}
	})
	want(t, "hash of narrow phases", narrow, 0x7bc43c9b3868841)
	wrapped := hashOfReals(eachListOfPowers, func(p []float64) []float64 {
		var list []float64
		for _, each := range p {
			list = append(list, impl.WrapPhase(each))
		}
		return list
	})
	want(t, "hash of wrapped phases", wrapped, 0xd9122ee63726db7f)
	unwrapped := hashOfReals(eachListOfPhases, func(p []float64) []float64 {
		list, _ := impl.UnwrapPhases(p)
		return list
	})
	want(t, "hash of unwrapped phases", unwrapped, 0x382e47eada2457fb)
	delays := hashOfReals(eachListOfPhases, func(p []float64) []float64 {
		list, _ := impl.DelaysOf(p)
		return list
	})
	want(t, "hash of delays", delays, 0x6aa27f5f6593e810)
}

func TestPromise15BitsOfManyNumbers(t *testing.T) {
	bins := hashOfLists(func(x []complex128) [][]complex128 {
		var list []complex128
		for _, k := range binsOf(len(x)) {
			bin, _ := impl.BinOf(x, k)
			list = append(list, bin)
		}
		return [][]complex128{list}
	})
	want(t, "hash of bins", bins, 0x160258b59397da75)
	polar := hashOfLists(func(x []complex128) [][]complex128 {
		var list []complex128
		for _, each := range x {
			list = append(list, impl.FromPolar(real(each), imag(each)))
		}
		return [][]complex128{list}
	})
	want(t, "hash of numbers with sizes and phases", polar, 0x7a35f0a00ea2e4ef)
	turns := hashOf(func(yield func(string) bool) {
		for k := -5000; k <= 5000; k++ {
			wideLines(yield, []complex128{impl.FromPolar(1.5, float64(k)/4096)})
		}
	})
	want(t, "hash of numbers on a circle", turns, 0x7f4de3113ddc7385)
}

func TestPromise15Phases(t *testing.T) {
	eighth := math.Nextafter(0.125, 1)
	for _, c := range []struct {
		x    complex128
		want float64
	}{
		{0, 0}, {complex(minus0, 0), 0}, {complex(0, minus0), 0}, {complex(minus0, minus0), 0},
		// Real and imaginary numbers.
		{1, 0}, {complex(3, minus0), 0}, {-1, 0.5}, {complex(-3, minus0), 0.5}, {2i, 0.25}, {complex(minus0, 2), 0.25}, {-2i, -0.25}, {complex(minus0, -2), -0.25},
		{complex(least, 0), 0}, {complex(-least, 0), 0.5}, {complex(0, least), 0.25}, {complex(0, -great), -0.25}, {complex(-great, minus0), 0.5},
		// One infinite part.
		{complex(inf, 0), 0}, {complex(inf, minus0), 0}, {complex(inf, 1), 0}, {complex(inf, -1), minus0}, {complex(inf, -great), minus0}, {complex(-inf, 0), 0.5}, {complex(-inf, minus0), 0.5}, {complex(-inf, great), 0.5}, {complex(-inf, -1), -0.5},
		{complex(0, inf), 0.25}, {complex(great, inf), 0.25}, {complex(-1, inf), 0.25}, {complex(minus0, -inf), -0.25}, {complex(1, -inf), -0.25}, {complex(-great, -inf), -0.25},
		// The diagonals, with two infinite parts too.
		{1 + 1i, eighth}, {-1 + 1i, 0.375}, {-1 - 1i, -0.375}, {1 - 1i, -eighth}, {complex(inf, inf), eighth}, {complex(-inf, inf), 0.375}, {complex(-inf, -inf), -0.375}, {complex(inf, -inf), -eighth},
		{complex(least, least), eighth}, {complex(-great, great), 0.375}, {complex(great, -great), -eighth},
		// NaN, also beside infinite parts.
		{complex(nan, 0), nan}, {complex(0, nan), nan}, {complex(nan, inf), nan}, {complex(-inf, nan), nan}, {complex(otherNaN, nan), nan}, {complex(1, otherNaN), nan},
		// Just at half a turn, and near it; and near 0.
		{complex(-1, least), 0.5}, {complex(-1, -least), -0.5}, {complex(-1, 1e-16), 0.5}, {complex(-1, -1e-16), -0.5}, {complex(-1, 2e-16), math.Nextafter(0.5, 0)}, {complex(-1, -2e-16), math.Nextafter(-0.5, 0)},
		{complex(1, least), 0}, {complex(1, -least), minus0}, {complex(great, -least), minus0}, {complex(1, 20*least), 3 * least}, {complex(1, -20*least), -3 * least},
		{complex(least, 1), 0.25}, {complex(-least, 1), 0.25}, {complex(-least, -1), -0.25}, {complex(least, -great), -0.25}, {3 + 4i, 0.14758361765043326}, {4 + 3i, 0.10241638234956672}, {-3 + 4i, 0.5 - 0.14758361765043326},
		// The first number of the series is seen in few phases.
		{1002 + 925i, 0x1.e5f7082db5c65p-4}, {1009 + 968i, 0x1.f27b87e555358p-4},
	} {
		wantSameReal(t, fmt.Sprint("PhaseOf ", c.x), impl.PhaseOf(c.x), c.want)
	}
}

func TestPromise15NarrowPhases(t *testing.T) {
	zero, tiny, big := float32(minus0), float32(math.SmallestNonzeroFloat32), float32(math.MaxFloat32)
	infinite := float32(inf)
	for _, c := range []struct {
		x    complex64
		want float32
	}{
		{0, 0}, {complex(zero, zero), 0}, {1, 0}, {-1, 0.5}, {complex(-1, zero), 0.5}, {2i, 0.25}, {-2i, -0.25}, {complex(infinite, 1), 0}, {complex(infinite, -1), zero}, {complex(-infinite, -big), -0.5}, {complex(1, infinite), 0.25},
		{1 + 1i, 0.125}, {complex(-infinite, infinite), 0.375}, {complex(tiny, -tiny), -0.125}, {complex(-big, -big), -0.375}, {complex(-1, tiny), 0.5}, {complex(-1, 1e-8), 0.5}, {complex(-1, -1e-8), -0.5},
		{complex(1, tiny), 0}, {complex(1, -tiny), zero}, {complex(big, tiny), 0}, {complex(big, -tiny), zero}, {3 + 4i, 0.14758362}, {complex(float32(nan), 1), float32(nan)}, {complex(infinite, float32(nan)), float32(nan)},
	} {
		wantSameReal(t, fmt.Sprint("NarrowPhaseOf ", c.x), float64(impl.NarrowPhaseOf(c.x)), float64(c.want))
	}
}

func TestPromise15PhasesAreAngles(t *testing.T) {
	for _, x := range numbersAround() {
		if !isNumber(real(x)) || !isNumber(imag(x)) || x == 0 {
			continue
		}
		phase := impl.PhaseOf(x)
		angle := math.Atan2(imag(x), real(x)) / (2 * math.Pi)
		apart := math.Abs(phase - angle)
		want(t, fmt.Sprint("an angle is near: ", x), min(apart, 1-apart) <= 2e-16, true)
		want(t, fmt.Sprint("a phase is -0.5 to 0.5: ", x), phase >= -0.5 && phase <= 0.5, true)
	}
}

func TestPromise15PhasesAreMirrored(t *testing.T) {
	for _, x := range append(numbersAround(), anyNumbers()...) {
		a, b := math.Abs(real(x)), math.Abs(imag(x))
		if a != a || b != b || a == 0 || b == 0 {
			continue
		}
		phase := impl.PhaseOf(complex(a, b))
		wantSameReal(t, "a phase mirrored at the real axis", impl.PhaseOf(complex(a, -b)), -phase)
		wantSameReal(t, "a phase mirrored at the imaginary axis", impl.PhaseOf(complex(-a, b)), 0.5-phase)
		wantSameReal(t, "a phase mirrored at both axes", impl.PhaseOf(complex(-a, -b)), -(0.5 - phase))
		if b < a && !math.IsInf(a, 0) {
			wantSameReal(t, "a phase mirrored at the diagonal", impl.PhaseOf(complex(b, a)), 0.25-phase)
		}
	}
}

// TestPromise15PhasesOfMultiples has parts that are 0, or finite and of at least
// 2 to the power -1000 in size, also when they are multiplied.
func TestPromise15PhasesOfMultiples(t *testing.T) {
	bottom := math.Ldexp(1, -1000)
	numbers := append(drawnNumbers(500), complex(bottom, 3*bottom), complex(-1.5*bottom, bottom), complex(great, bottom), complex(bottom, -great), complex(0, bottom), complex(minus0, -3), complex(-bottom, minus0), complex(great/3, -great))
	isTold := func(a, multiple float64) bool {
		size := math.Abs(multiple)
		return a == 0 || math.Abs(a) >= bottom && size >= bottom && size <= great
	}
	for _, x := range numbers {
		for _, by := range []int{-1900, -1000, -970, -500, -1, 1, 2, 30, 960, 1000, 1023, 1900} {
			a, b := math.Ldexp(real(x), by), math.Ldexp(imag(x), by)
			if isTold(real(x), a) && isTold(imag(x), b) {
				wantSameReal(t, fmt.Sprintf("PhaseOf %v times 2 to the power %d", x, by), impl.PhaseOf(complex(a, b)), impl.PhaseOf(x))
			}
		}
	}
}

func TestPromise15WrappedPhases(t *testing.T) {
	for _, a := range anyReals() {
		wantSameReal(t, fmt.Sprint("WrapPhase ", a), impl.WrapPhase(a), toldWrapped(a))
	}
	below, beyond := math.Nextafter(0.5, 0), math.Nextafter(0.5, 1)
	odd := math.Ldexp(1, 52) + 1
	for _, c := range []struct{ a, want float64 }{
		{0, 0}, {minus0, minus0}, {0.25, 0.25}, {-0.25, -0.25}, {1.25, 0.25}, {-1.25, -0.25}, {0.75, -0.25}, {-0.75, 0.25}, {1, 0}, {-1, 0}, {7, 0}, {least, least}, {-least, -least},
		// Just at half a turn, and beside it.
		{0.5, -0.5}, {-0.5, -0.5}, {1.5, -0.5}, {-1.5, -0.5}, {2.5, -0.5}, {below, -0.5}, {-below, -below}, {beyond, -below + math.Ldexp(1, -54)}, {-beyond, 0.5 - math.Ldexp(1, -53)},
		{inf, inf}, {-inf, -inf}, {nan, nan}, {otherNaN, nan}, {great, 0}, {-great, 0}, {1e300, 0}, {math.Ldexp(1, 52), 0}, {odd, -1}, {-odd, -1}, {odd + 1, 0}, {math.Ldexp(1, 52) - 0.5, -0.5}, {math.Ldexp(1, 51) + 0.5, -0.5}, {math.Ldexp(1, 50) + 0.25, 0.25},
	} {
		wantSameReal(t, fmt.Sprint("WrapPhase, told, ", c.a), toldWrapped(c.a), c.want)
		wantSameReal(t, fmt.Sprint("WrapPhase ", c.a), impl.WrapPhase(c.a), c.want)
	}
	for k := -4000; k <= 4000; k++ {
		a := float64(k) / 1000
		wrapped := impl.WrapPhase(a)
		wantSameReal(t, fmt.Sprint("WrapPhase ", a), wrapped, toldWrapped(a))
		want(t, fmt.Sprint("a wrapped phase is -0.5 to 0.5: ", a), wrapped >= -0.5 && wrapped <= 0.5, true)
		turns := a - wrapped
		want(t, fmt.Sprint("whole turns: ", a), math.Abs(turns-math.Round(turns)) < 1e-15, true)
	}
}

func TestPromise15UnwrappedPhasesByTheirRules(t *testing.T) {
	check := func(p []float64) {
		t.Helper()
		phases, code := impl.UnwrapPhases(p)
		wantReals(t, fmt.Sprint("UnwrapPhases of ", p), phases, code, toldUnwrapped(p)...)
		delays, code := impl.DelaysOf(p)
		wantReals(t, fmt.Sprint("DelaysOf ", p), delays, code, toldDelays(p)...)
		want(t, "DelaysOf: count", len(delays), max(len(p)-1, 0))
	}
	for p := range eachListOfPhases {
		check(p)
	}
	for _, p := range oddPowers() {
		check(p)
	}
}

func TestPromise15UnwrappedPhases(t *testing.T) {
	odd := math.Ldexp(1, 52) + 1
	for _, c := range []struct{ p, want, delays []float64 }{
		{nil, nil, nil}, {[]float64{0.75}, []float64{0.75}, nil}, {[]float64{minus0}, []float64{minus0}, nil}, {[]float64{nan}, []float64{nan}, nil}, {[]float64{-inf}, []float64{-inf}, nil},
		{[]float64{0.25, 0.5, -0.25}, []float64{0.25, 0.5, 0.75}, []float64{-0.25, -0.25}}, {[]float64{-0.25, 0.5, 0.25}, []float64{-0.25, -0.5, -0.75}, []float64{0.25, 0.25}}, {[]float64{0, 0.25, 0.5}, []float64{0, 0.25, 0.5}, []float64{-0.25, -0.25}},
		{[]float64{7, 0, 3.25, -2}, []float64{7, 7, 7.25, 7}, []float64{0, -0.25, 0.25}},
		// Half a turn goes back, also where the difference is half a turn forth.
		{[]float64{0, 0.5, 0, 0.5}, []float64{0, -0.5, -1, -1.5}, []float64{0.5, 0.5, 0.5}}, {[]float64{0, -0.5, 0}, []float64{0, -0.5, -1}, []float64{0.5, 0.5}}, {[]float64{-0.5, 0.5}, []float64{-0.5, -0.5}, []float64{0}},
		{[]float64{minus0, minus0}, []float64{minus0, 0}, []float64{minus0}}, {[]float64{0, minus0}, []float64{0, 0}, []float64{0}}, {[]float64{minus0, 0}, []float64{minus0, 0}, []float64{minus0}},
		{[]float64{0, nan, 0.25, 0.5}, []float64{0, nan, nan, nan}, []float64{nan, nan, nan}}, {[]float64{1, inf, 0.25}, []float64{1, inf, nan}, []float64{-inf, nan}}, {[]float64{inf, 1}, []float64{inf, nan}, []float64{nan}}, {[]float64{1, -inf}, []float64{1, -inf}, []float64{inf}},
		{[]float64{0, great, -great}, []float64{0, 0, -inf}, []float64{0, inf}}, {[]float64{0, odd}, []float64{0, -1}, []float64{1}}, {[]float64{great, 0}, []float64{great, great}, []float64{0}},
	} {
		phases, code := impl.UnwrapPhases(c.p)
		wantReals(t, fmt.Sprint("UnwrapPhases of ", c.p), phases, code, c.want...)
		delays, code := impl.DelaysOf(c.p)
		wantReals(t, fmt.Sprint("DelaysOf ", c.p), delays, code, c.delays...)
	}
}

// TestPromise15UnwrappedPhasesDoNotJump also asks that they differ from the
// phases by whole turns.
func TestPromise15UnwrappedPhasesDoNotJump(t *testing.T) {
	for _, n := range bankLengths() {
		for _, x := range [][]complex128{ruledSignal(n), drawnNumbers(n)} {
			spectrum, _ := impl.TransformOf(x)
			p, _ := impl.PhasesOf(spectrum)
			phases, code := impl.UnwrapPhases(p)
			want(t, "UnwrapPhases: code", code, impl.OK)
			for i := range phases {
				turns := phases[i] - p[i]
				want(t, "whole turns", math.Abs(turns-math.Round(turns)) < 1e-12, true)
				if i > 0 {
					want(t, "a jump", math.Abs(phases[i]-phases[i-1]) > 0.5+1e-12, false)
				}
			}
		}
	}
}

// TestPromise15WholeTurnsAreTakenAway has phases that are sums of powers of 2,
// so that nothing is rounded.
func TestPromise15WholeTurnsAreTakenAway(t *testing.T) {
	for _, n := range []int{1, 2, 3, 10, 100, 256} {
		smooth, jumping := make([]float64, n), make([]float64, n)
		for i := range n {
			smooth[i] = float64(i*i%1000-300)/1024 + float64(i)/64
			if i > 0 {
				smooth[i] = smooth[i-1] + float64((i*i*37)%1000-500)/1024
			}
			jumping[i] = smooth[i] + float64(i*i%7-3)
		}
		jumping[0] = smooth[0]
		phases, code := impl.UnwrapPhases(smooth)
		wantReals(t, "phases that do not jump", phases, code, smooth...)
		phases, code = impl.UnwrapPhases(jumping)
		wantReals(t, "phases that jump by whole turns", phases, code, smooth...)
	}
}

// TestPromise15DelaysOfOneNumber has signals of one number, whose phases fall by
// its place.
func TestPromise15DelaysOfOneNumber(t *testing.T) {
	for _, n := range []int{5, 8, 17, 64, 100, 256} {
		for _, place := range []int{0, 1, 2, n / 3, (n - 1) / 2} {
			x := make([]complex128, n)
			x[place] = 3
			spectrum, _ := impl.TransformOf(x)
			p, _ := impl.PhasesOf(spectrum)
			delays, code := impl.DelaysOf(p)
			want(t, "DelaysOf: code", code, impl.OK)
			want(t, "DelaysOf: count", len(delays), n-1)
			for _, each := range delays {
				want(t, fmt.Sprintf("a delay by %d of %d is near: %v", place, n, each), math.Abs(each-float64(place)/float64(n)) < 1e-13, true)
			}
		}
	}
}

func TestPromise15ListErrors(t *testing.T) {
	for _, n := range []int{0, 1, 2, 255, 256, 257} {
		code := int64(impl.OK)
		if n > impl.MaxSignal {
			code = impl.ErrLimit
		}
		name := fmt.Sprint(" of ", n)
		x := drawnNumbers(n)
		p, _ := partsOf(x)
		phases, got := impl.PhasesOf(x)
		wantCount(t, "PhasesOf"+name, phases, got, n, code)
		unwrapped, got := impl.UnwrapPhases(p)
		wantCount(t, "UnwrapPhases"+name, unwrapped, got, n, code)
		delays, got := impl.DelaysOf(p)
		wantCount(t, "DelaysOf"+name, delays, got, max(n-1, 0), code)
	}
}

func TestPromise15BinsByTheirRules(t *testing.T) {
	for n := 1; n < 34; n++ {
		for _, x := range signalsOfLength(n) {
			for k := range int64(n) {
				bin, code := impl.BinOf(x, k)
				wantSignal(t, fmt.Sprintf("BinOf %v at %d", x, k), []complex128{bin}, code, toldBin(x, k))
			}
		}
	}
}

func TestPromise15Bins(t *testing.T) {
	for _, c := range []struct {
		x    []complex128
		k    int64
		want complex128
	}{
		{[]complex128{1, 2, 3}, 0, 6}, {[]complex128{5 - 2i}, 0, 5 - 2i}, {[]complex128{complex(minus0, nan)}, 0, complex(minus0, nan)}, {[]complex128{complex(minus0, minus0)}, 0, complex(minus0, minus0)},
		{[]complex128{1, 2}, 1, complex(-1, 0)}, {[]complex128{1, 2, 3, 4}, 1, -2 + 2i}, {[]complex128{1, 2, 3, 4}, 2, -2}, {[]complex128{1, 2, 3, 4}, 3, -2 - 2i}, {[]complex128{0, 1, 0, 0}, 1, -1i}, {[]complex128{0, 1, 0, 0}, 3, 1i},
		{[]complex128{1, complex(inf, 0)}, 0, complex(inf, nan)}, {[]complex128{complex(inf, 0), 1}, 0, complex(inf, 0)}, {[]complex128{1, complex(0, nan)}, 1, complex(nan, nan)},
		// The last number comes first, so that the first one can be lost.
		{[]complex128{1, 1 << 53, 1}, 0, 1 << 53}, {[]complex128{1 << 53, 1, 1}, 0, 1<<53 + 2}, {[]complex128{1, 1, 1 << 53}, 0, 1 << 53},
	} {
		bin, code := impl.BinOf(c.x, c.k)
		wantSignal(t, fmt.Sprintf("BinOf %v at %d", c.x, c.k), []complex128{bin}, code, c.want)
	}
}

func TestPromise15BinsAreNearTheTransform(t *testing.T) {
	for _, n := range someLengths() {
		for _, x := range append(greatSignals(n), ruledSignal(n)) {
			plain, _ := impl.PlainTransform(x)
			bound, _ := impl.BoundOf(x)
			var bins []complex128
			for k := range int64(n) {
				bin, code := impl.BinOf(x, k)
				want(t, "BinOf: code", code, impl.OK)
				bins = append(bins, bin)
			}
			wantNear(t, "bins", bins, plain, bound)
		}
	}
}

func TestPromise15BinErrors(t *testing.T) {
	x := slices.Repeat([]complex128{1}, 257)
	for _, n := range []int{0, 1, 2, 4, 255, 256, 257} {
		for _, k := range append(oddIntegers(), int64(n-1), int64(n), int64(-n)) {
			expected := int64(impl.ErrRange)
			if n > impl.MaxSignal {
				expected = impl.ErrLimit
			} else if k >= 0 && k < int64(n) {
				expected = impl.OK
			}
			bin, code := impl.BinOf(x[:n], k)
			name := fmt.Sprintf("BinOf %d numbers at %d", n, k)
			want(t, name+": code", code, expected)
			if expected != impl.OK {
				wantSame(t, name, bin, 0)
			} else if k == 0 {
				wantSame(t, name, bin, complex(float64(n), 0))
			}
		}
	}
}

func TestPromise15PolarNumbersByTheirRules(t *testing.T) {
	check := func(size, phase float64) {
		t.Helper()
		wantSame(t, fmt.Sprint("FromPolar ", size, phase), impl.FromPolar(size, phase), toldPolar(size, phase))
	}
	for _, size := range anyReals() {
		for _, phase := range anyReals() {
			check(size, phase)
		}
	}
	for k := -4100; k <= 4100; k++ {
		phase := float64(k) / 2048
		for _, each := range []float64{phase, math.Nextafter(phase, inf), math.Nextafter(phase, -inf), phase / 3} {
			check(1, each)
			check(-0.3, each)
		}
	}
}

func TestPromise15PolarNumbers(t *testing.T) {
	none, half := complex(nan, nan), math.Ldexp(1, -11)
	odd := math.Ldexp(1, 52) + 1
	first, _ := impl.TurnOf(1024, 1)
	last, _ := impl.TurnOf(1024, 1023)
	for _, c := range []struct {
		size, phase float64
		want        complex128
	}{
		{2, 0.25, 2i}, {1, 0, 1}, {1, minus0, 1}, {1, 0.5, -1}, {1, -0.5, -1}, {2, -0.25, -2i}, {3, 7, 3}, {3, -1.25, -3i}, {5, 1.5, -5},
		// Sizes that are 0, negative, infinite or NaN.
		{0, 0.25, 0}, {0, 0.5, complex(minus0, 0)}, {minus0, 0.25, complex(minus0, minus0)}, {-3, 0, complex(-3, minus0)}, {-3, 0.25, complex(minus0, -3)}, {inf, 0, complex(inf, nan)}, {-inf, 0.25, complex(nan, -inf)}, {inf, 0.125, complex(inf, inf)}, {inf, 0.375, complex(-inf, inf)},
		{nan, 0, none}, {otherNaN, 0.3, none}, {great, 0.5, complex(-great, 0)}, {least, 0.25, complex(0, least)}, {least, 0.125, complex(least, least)},
		// Phases that are infinite or NaN, and great ones.
		{1, inf, none}, {1, -inf, none}, {1, nan, none}, {0, nan, none}, {nan, inf, none}, {inf, -inf, none}, {1, otherNaN, none}, {1, great, 1}, {2, -great, 2}, {1, odd, 1}, {1, -odd, 1}, {1, math.Ldexp(1, 51) + 0.5, -1},
		// The nearest turn, and the greater one of two that are as near.
		{1, half, first}, {1, -half, 1}, {1, math.Nextafter(half, 0), first}, {1, half / 2, 1}, {1, half * 1.5, first}, {1, half * 2.9, first}, {1, math.Nextafter(-half, -1), last}, {1, -3 * half, last}, {1, -1.5 * half, last}, {1, least, 1}, {1, -least, 1},
	} {
		wantSame(t, fmt.Sprint("FromPolar ", c.size, c.phase), impl.FromPolar(c.size, c.phase), c.want)
	}
}

// TestPromise15PhasesLeadBack has numbers that are found again from their sizes
// and phases, as far as 1024 turns are apart.
func TestPromise15PhasesLeadBack(t *testing.T) {
	for _, x := range drawnNumbers(2000) {
		size := impl.SizeOf(x)
		again := impl.FromPolar(size, impl.PhaseOf(x))
		apart := impl.SizeOf(again - x)
		want(t, fmt.Sprint("a number comes back: ", x, again), apart <= size*(math.Pi/1024)*(1+1e-9), true)
		wantSame(t, "it comes back just so", impl.FromPolar(size, impl.PhaseOf(again)), again)
	}
	turns, _ := impl.TurnsOf(1024)
	for k, turn := range turns {
		wantSame(t, "a turn comes back", impl.FromPolar(1, impl.PhaseOf(turn)), turn)
		want(t, fmt.Sprint("the phase of a turn is near: ", k), math.Abs(impl.WrapPhase(impl.PhaseOf(turn)-float64(k)/1024)) <= 2e-16, true)
		wantSame(t, "a turn by its phase", impl.FromPolar(1, float64(k)/1024), turn)
	}
	for k := -3000; k <= 3000; k++ {
		phase := float64(k) / 1000
		apart := impl.WrapPhase(impl.PhaseOf(impl.FromPolar(2.5, phase)) - phase)
		want(t, fmt.Sprint("a phase comes back: ", phase), math.Abs(apart) <= math.Ldexp(1, -11)+1e-15, true)
		size := impl.SizeOf(impl.FromPolar(2.5, phase))
		want(t, fmt.Sprint("a size comes back: ", phase), math.Abs(size-2.5) <= 1e-15, true)
	}
}
