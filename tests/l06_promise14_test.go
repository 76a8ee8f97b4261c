package tests

import (
	"fmt"
	"math"
	"slices"
	"strconv"
	"testing"

	"loop.example/g01155/impl"
)

func wantReal(t *testing.T, name string, got float64, code int64, want float64) {
	t.Helper()
	wantReals(t, name, []float64{got}, code, want)
}

// wantNoReal asks for an error with which no number is told.
func wantNoReal(t *testing.T, name string, got float64, code, expected int64) {
	t.Helper()
	wantSameReal(t, name, got, 0)
	want(t, name+": code", code, expected)
}

func wantPlaces(t *testing.T, name string, got []int64, code int64, expected ...int64) {
	t.Helper()
	want(t, name, fmt.Sprint(got), fmt.Sprint(expected))
	want(t, name+": code", code, impl.OK)
}

func wantTop(t *testing.T, name string, offset, value float64, code int64, wantOffset, wantValue float64) {
	t.Helper()
	wantReals(t, name, []float64{offset, value}, code, wantOffset, wantValue)
}

func TestPromise14PowersByTheirRules(t *testing.T) {
	for x := range eachBankSignal {
		powers, code := impl.PowersOf(x)
		wantReals(t, nameOf("PowersOf", x, nil), powers, code, toldPowers(x)...)
	}
	for x := range slices.Chunk(anyNumbers(), impl.MaxSignal) {
		powers, code := impl.PowersOf(x)
		wantReals(t, "PowersOf any numbers", powers, code, toldPowers(x)...)
	}
	powers, code := impl.PowersOf([]complex128{complex(minus0, minus0), complex(nan, inf), complex(-inf, 1), complex(least, 0), complex(great, 0), 1 + 1i})
	wantReals(t, "PowersOf odd numbers", powers, code, 0, nan, inf, 0, inf, 2)
	powers, code = impl.PowersOf(make([]complex128, 257))
	wantCode(t, "PowersOf a long signal", powers, code, impl.ErrLimit)
}

func TestPromise14AveragesByTheirRules(t *testing.T) {
	for c := range someFrameCases {
		if len(c.x) == 0 {
			continue
		}
		y := otherSignal(len(c.x))
		first, second := toldFrames(c.x, c.w, int(c.hop)), toldFrames(y, c.w, int(c.hop))
		average, code := impl.AverageSpectrum(c.x, c.w, c.hop)
		wantReals(t, "AverageSpectrum of "+c.name(), average, code, toldAverage(first)...)
		cross, code := impl.CrossSpectrum(c.x, y, c.w, c.hop)
		wantSignal(t, "CrossSpectrum of "+c.name(), cross, code, toldCross(first, second)...)
		cross, code = impl.CrossSpectrum(y, c.x, c.w, c.hop)
		wantSignal(t, "CrossSpectrum the other way, of "+c.name(), cross, code, toldCross(second, first)...)
		coherence, code := impl.CoherenceOf(c.x, y, c.w, c.hop)
		wantReals(t, "CoherenceOf "+c.name(), coherence, code, toldCoherence(first, second)...)
	}
}

// TestPromise14BitsOfManyAverages holds them against a program outside of this
// one.
func TestPromise14BitsOfManyAverages(t *testing.T) {
	hash := func(make func(c frameCase) []complex128) uint64 {
		return hashOf(func(yield func(string) bool) {
			for c := range eachFrameCase {
				wideLines(yield, make(c))
			}
		})
	}
	want(t, "hash of averages", hash(func(c frameCase) []complex128 {
		list, _ := impl.AverageSpectrum(c.x, c.w, c.hop)
		return complexOf(list)
	}), 0xf4e50a4f0061042)
	want(t, "hash of products", hash(func(c frameCase) []complex128 {
		list, _ := impl.CrossSpectrum(c.x, otherSignal(len(c.x)), c.w, c.hop)
		return list
	}), 0xb9e3ee68a9f67ff0)
	want(t, "hash of coherences", hash(func(c frameCase) []complex128 {
		list, _ := impl.CoherenceOf(c.x, otherSignal(len(c.x)), c.w, c.hop)
		return complexOf(list)
	}), 0x681f58891bf68d52)
	powers := hashOfLists(func(x []complex128) [][]complex128 {
		list, _ := impl.PowersOf(x)
		return [][]complex128{complexOf(list)}
	})
	want(t, "hash of powers", powers, 0x89cd958babdf8d35)
}

func TestPromise14Averages(t *testing.T) {
	ones := []float64{1, 1}
	average, code := impl.AverageSpectrum([]complex128{1, 3, 5, 1}, ones, 2)
	wantReals(t, "AverageSpectrum", average, code, 26, 10)
	average, code = impl.AverageSpectrum([]complex128{1, 3i, 5, 1}, ones, 2)
	wantReals(t, "AverageSpectrum of complex numbers", average, code, 23, 13)
	average, code = impl.AverageSpectrum([]complex128{1, 3, 5}, ones, 1)
	wantReals(t, "AverageSpectrum of overlapped blocks", average, code, 40, 4)
	average, code = impl.AverageSpectrum([]complex128{1, 3, 5}, ones, 2)
	wantReals(t, "AverageSpectrum beyond the end", average, code, 20.5, 14.5)
	average, code = impl.AverageSpectrum([]complex128{2i}, []float64{-3}, 1)
	wantReals(t, "AverageSpectrum of one number", average, code, 36)
	average, code = impl.AverageSpectrum([]complex128{complex(inf, 0), 1}, ones[:1], 1)
	wantReals(t, "AverageSpectrum of an infinite number", average, code, inf)
	average, code = impl.AverageSpectrum([]complex128{complex(nan, 0), 1, 1}, ones, 1)
	wantReals(t, "AverageSpectrum of NaN", average, code, nan, nan)
	cross, code := impl.CrossSpectrum([]complex128{1i, 2}, []complex128{1, 1i}, ones[:1], 1)
	wantSignal(t, "CrossSpectrum", cross, code, complex(0, -0.5))
	cross, code = impl.CrossSpectrum([]complex128{1i, 2, 3}, []complex128{1, 1i, 2 + 1i}, ones[:1], 1)
	wantSignal(t, "CrossSpectrum of 3 frames", cross, code, complex(2, float64(-4)/3))
	coherence, code := impl.CoherenceOf([]complex128{1i, 2}, []complex128{1, 1i}, ones[:1], 1)
	wantReals(t, "CoherenceOf", coherence, code, 0.1)
	coherence, code = impl.CoherenceOf([]complex128{0, 0}, []complex128{1, 2}, ones, 1)
	wantReals(t, "CoherenceOf zeros", coherence, code, nan, nan)
}

// TestPromise14AveragesInOrder has powers whose sum is another one in another
// order, and for one that begins with 0.
func TestPromise14AveragesInOrder(t *testing.T) {
	big, one := complex(math.Ldexp(1, 27), 0), []float64{1}
	average, code := impl.AverageSpectrum([]complex128{big, 1, 1, 1}, one, 1)
	wantReals(t, "the greatest power first", average, code, math.Ldexp(1, 52))
	average, code = impl.AverageSpectrum([]complex128{1, 1, 1, big}, one, 1)
	wantReals(t, "the greatest power last", average, code, math.Ldexp(1, 52)+1)
	against := complex(minus0, minus0)
	cross, code := impl.CrossSpectrum([]complex128{against}, []complex128{1}, one, 1)
	wantSignal(t, "CrossSpectrum of -0", cross, code, complex(minus0, 0))
	cross, code = impl.CrossSpectrum([]complex128{against, against}, []complex128{1i, 1i}, one, 1)
	wantSignal(t, "CrossSpectrum of -0 and i", cross, code, complex(minus0, 0))
}

func TestPromise14AveragesAreNotNegative(t *testing.T) {
	for _, n := range []int{1, 2, 3, 7, 16, 40, 64} {
		for _, x := range append(greatSignals(n), ruledSignal(n), tinySignal(n), scaled(ruledSignal(n), 1e300)) {
			for _, kind := range allKinds() {
				for _, size := range []int64{1, 4, 6} {
					average, code := impl.AverageSpectrum(x, toldWindow(kind, size), max(size/2, 1))
					want(t, "AverageSpectrum: code", code, impl.OK)
					for _, each := range average {
						want(t, "an average is negative", each < 0 || each == 0 && math.Signbit(each), false)
					}
				}
			}
		}
	}
}

// TestPromise14CrossSpectraOfOne has products of frames with themselves, which
// are their powers.
func TestPromise14CrossSpectraOfOne(t *testing.T) {
	for c := range someFrameCases {
		if len(c.x) == 0 || !slices.Equal(c.w, toldWindow(impl.WdSine, int64(len(c.w)))) {
			continue
		}
		x := drawnNumbers(len(c.x))
		average, one := impl.AverageSpectrum(x, c.w, c.hop)
		cross, two := impl.CrossSpectrum(x, x, c.w, c.hop)
		wantSignal(t, "CrossSpectrum of one signal", cross, max(one, two), complexOf(average)...)
		y := otherSignal(len(x))
		forth, one := impl.CrossSpectrum(x, y, c.w, c.hop)
		back, two := impl.CrossSpectrum(y, x, c.w, c.hop)
		want(t, "codes", [2]int64{one, two}, [2]int64{})
		want(t, "CrossSpectrum the other way", slices.Equal(conjugates(forth), back), true)
		for _, each := range coherences(t, x, y, c) {
			want(t, "coherences are 0 to 1, nearly", each >= 0 && each <= 1+1e-12 || each != each, true)
		}
		for _, each := range coherences(t, x, scaled(x, 3-2i), c) {
			want(t, "a multiple is coherent", math.Abs(each-1) <= 1e-9 || each != each, true)
		}
	}
}

func coherences(t *testing.T, x, y []complex128, c frameCase) []float64 {
	list, code := impl.CoherenceOf(x, y, c.w, c.hop)
	want(t, "CoherenceOf: code", code, impl.OK)
	want(t, "CoherenceOf: count", len(list), len(c.w))
	return list
}

// averageCodes are those of all functions of averages, which have to tell
// nothing with an error.
func averageCodes(t *testing.T, name string, x, y []complex128, w []float64, hop int64) [3]int64 {
	t.Helper()
	average, one := impl.AverageSpectrum(x, w, hop)
	cross, two := impl.CrossSpectrum(x, y, w, hop)
	coherence, three := impl.CoherenceOf(x, y, w, hop)
	for i, count := range []int{len(average), len(cross), len(coherence)} {
		if code := [3]int64{one, two, three}[i]; code == impl.OK {
			want(t, name+": count", count, len(w))
		} else {
			want(t, name+": count", count, 0)
		}
	}
	return [3]int64{one, two, three}
}

func TestPromise14AverageErrors(t *testing.T) {
	x, w := drawnNumbers(257), slices.Repeat([]float64{1}, 257)
	const ok, ran, lim, state = impl.OK, impl.ErrRange, impl.ErrLimit, impl.ErrState
	for _, c := range []struct {
		a, b, size int
		hop        int64
		one, both  int64
	}{
		{1, 1, 1, 1, ok, ok}, {5, 5, 4, 4, ok, ok}, {256, 256, 256, 256, ok, ok}, {64, 64, 1, 1, ok, ok}, {67, 67, 4, 1, ok, ok}, {256, 256, 4, 4, ok, ok},
		{0, 0, 1, 1, state, state}, {0, 0, 256, 1, state, state}, {0, 0, 4, 4, state, state}, {0, 0, 4, 5, ran, ran}, {0, 0, 4, 0, ran, ran}, {0, 0, 0, 0, ran, ran}, {0, 0, 257, 1, lim, lim},
		{0, 1, 4, 4, state, ran}, {1, 0, 4, 4, ok, ran}, {0, 256, 4, 4, state, ran}, {5, 4, 4, 4, ok, ran}, {5, 6, 4, 9, ran, ran}, {5, 6, 257, 1, lim, lim}, {5, 257, 4, 4, ok, lim}, {257, 5, 4, 4, lim, lim},
		{0, 257, 4, 4, state, lim}, {257, 0, 0, 0, lim, lim}, {257, 257, 4, 4, lim, lim}, {257, 257, 0, 0, lim, lim}, {256, 257, 257, 0, lim, lim}, {256, 257, 256, 0, ran, lim},
		{65, 65, 1, 1, lim, lim}, {65, 64, 1, 1, lim, ran}, {64, 65, 1, 1, ok, ran}, {68, 68, 4, 1, lim, lim}, {256, 256, 4, 3, lim, lim}, {68, 67, 4, 1, lim, ran},
		{5, 5, 4, 5, ran, ran}, {5, 5, 4, 0, ran, ran}, {5, 5, 4, -1, ran, ran}, {5, 5, 0, 1, ran, ran}, {5, 5, 4, math.MaxInt64, ran, ran}, {5, 5, 4, math.MinInt64, ran, ran}, {65, 65, 1, 2, ran, ran},
	} {
		name := fmt.Sprint("averages of ", c)
		want(t, name, averageCodes(t, name, x[:c.a], x[:c.b], w[:c.size], c.hop), [3]int64{c.one, c.both, c.both})
	}
}

// TestPromise14AverageErrorsAsForFrames goes through many lengths: what is no
// error of frames is one of averages only if there are no frames.
func TestPromise14AverageErrorsAsForFrames(t *testing.T) {
	x, w := drawnNumbers(257), slices.Repeat([]float64{1}, 257)
	for _, length := range []int{0, 1, 5, 64, 65, 256, 257} {
		for _, size := range []int{0, 1, 4, 193, 256, 257} {
			for _, hop := range oddIntegers() {
				_, expected := impl.AnalyseBank(x[:length], w[:size], hop)
				if expected == impl.OK && length == 0 {
					expected = impl.ErrState
				}
				name := fmt.Sprint("averages of ", length, size, hop)
				want(t, name, averageCodes(t, name, x[:length], x[:length], w[:size], hop), [3]int64{expected, expected, expected})
			}
		}
	}
}

func TestPromise14SmoothPowersByTheirRules(t *testing.T) {
	for p := range eachPowers {
		for _, reach := range reachesOf(len(p)) {
			if len(p) > 65 && reach > 2 {
				continue
			}
			smooth, code := impl.SmoothPowers(p, reach)
			wantReals(t, fmt.Sprintf("SmoothPowers of %v by %d", p, reach), smooth, code, toldSmooth(p, int(reach))...)
		}
	}
	hash := hashOfReals(eachListOfPowers, func(p []float64) []float64 {
		var list []float64
		for _, reach := range reachesOf(len(p)) {
			smooth, _ := impl.SmoothPowers(p, reach)
			list = append(list, smooth...)
		}
		return list
	})
	want(t, "hash of smooth powers", hash, 0x7e24f888a4c52512)
}

func TestPromise14SmoothPowers(t *testing.T) {
	for _, c := range []struct {
		p     []float64
		reach int64
		want  []float64
	}{
		{nil, 0, nil}, {[]float64{5}, 0, []float64{5}}, {[]float64{minus0, nan, -inf, least}, 0, []float64{minus0, nan, -inf, least}},
		{[]float64{3, 0, 6}, 1, []float64{3, 3, 3}}, {[]float64{3, 0, 6, 0}, 1, []float64{1, 3, 2, 3}}, {[]float64{5, 0, 0, 0, 0, 0}, 2, []float64{1, 1, 1, 0, 1, 1}},
		// Some numbers are added more than once.
		{[]float64{3, 6}, 1, []float64{5, 4}}, {[]float64{5, 10, 0}, 2, []float64{5, 4, 6}}, {[]float64{7, 0, 0, 0}, 3, []float64{1, 2, 2, 2}}, {[]float64{0, 0, 5, 0}, 2, []float64{2, 1, 1, 1}},
		// The sum begins with its first term, and goes from left to right.
		{[]float64{minus0, minus0, minus0}, 1, []float64{minus0, minus0, minus0}}, {[]float64{1, 1 << 53, 1}, 1, []float64{float64(1<<53+2) / 3, float64(1<<53) / 3, float64(1<<53) / 3}},
		{[]float64{great, great, 0}, 1, []float64{inf, inf, inf}}, {[]float64{great, -great, great}, 1, []float64{inf, great / 3, great / 3}}, {[]float64{inf, 0, 0, 1}, 1, []float64{inf, inf, 1.0 / 3, inf}}, {[]float64{nan, 0, 0, 3}, 1, []float64{nan, nan, 1, nan}},
	} {
		smooth, code := impl.SmoothPowers(c.p, c.reach)
		wantReals(t, fmt.Sprintf("SmoothPowers of %v by %d", c.p, c.reach), smooth, code, c.want...)
	}
}

func TestPromise14SmoothErrors(t *testing.T) {
	p := slices.Repeat([]float64{1}, 257)
	for _, length := range []int{0, 1, 2, 3, 255, 256, 257} {
		for _, reach := range append(oddIntegers(), 254) {
			code := int64(impl.ErrRange)
			if reach == 0 || reach > 0 && reach <= int64(length-1) {
				code = impl.OK
			}
			if length > impl.MaxSignal {
				code = impl.ErrLimit
			}
			smooth, got := impl.SmoothPowers(p[:length], reach)
			wantCount(t, fmt.Sprintf("SmoothPowers of %d by %d", length, reach), smooth, got, length, code)
		}
	}
}

func badFloorsOfPeaks() []float64 { return []float64{nan, otherNaN} }

func TestPromise14PeaksByTheirRules(t *testing.T) {
	for p := range eachPowers {
		if len(p) < 3 {
			continue
		}
		for _, floor := range append(badFloorsOfPeaks(), -inf, minus0, 0, 0.5, 1, inf, p[0], p[1], p[2]) {
			places, code := impl.PeaksOf(p, floor)
			wantPlaces(t, fmt.Sprintf("PeaksOf %v with the floor %v", p, floor), places, code, toldPeaks(p, floor)...)
		}
	}
	hash := hashOf(func(yield func(string) bool) {
		for p := range eachListOfPowers {
			for _, floor := range []float64{-inf, 0, 0.5} {
				places, _ := impl.PeaksOf(p, floor)
				for _, place := range places {
					yield(strconv.FormatInt(place, 10))
				}
			}
		}
	})
	want(t, "hash of peaks", hash, 0x95c5ef339e1b6b69)
}

func TestPromise14Peaks(t *testing.T) {
	next := math.Nextafter(3, 4)
	for _, c := range []struct {
		p     []float64
		floor float64
		want  []int64
	}{
		{[]float64{1, 3, 2, 5, 0}, 2, []int64{1, 3}}, {[]float64{1, 3, 2, 5, 0}, 3, []int64{1, 3}}, {[]float64{1, 3, 2, 5, 0}, next, []int64{3}}, {[]float64{1, 3, 2, 5, 0}, 5, []int64{3}}, {[]float64{1, 3, 2, 5, 0}, 6, nil},
		// Both ends, whose neighbours stand at the other end.
		{[]float64{5, 1, 2}, 0, []int64{0}}, {[]float64{1, 2, 5}, 0, []int64{2}}, {[]float64{5, 1, 5}, 0, nil}, {[]float64{5, 1, 6}, 0, []int64{2}}, {[]float64{6, 1, 5}, 0, []int64{0}}, {[]float64{5, 1, 2, 1}, 0, []int64{0, 2}}, {[]float64{1, 2, 1, 5}, 0, []int64{1, 3}},
		// Numbers equal to a neighbour are no peaks.
		{[]float64{1, 2, 2, 1}, 0, nil}, {[]float64{2, 2, 1}, 0, nil}, {[]float64{1, 1, 1}, 0, nil}, {[]float64{0, minus0, 0}, 0, nil}, {[]float64{minus0, 0, minus0}, 0, nil}, {[]float64{3, next, 3}, 0, []int64{1}},
		{[]float64{minus0, -1, -2}, 0, []int64{0}}, {[]float64{0, -1, -2}, minus0, []int64{0}}, {[]float64{-1, -2, -3}, -1, []int64{0}}, {[]float64{-1, -2, -3}, 0, nil},
		{[]float64{inf, 1, 2}, inf, []int64{0}}, {[]float64{inf, inf, 2}, 0, nil}, {[]float64{-inf, 1, -inf}, -inf, []int64{1}}, {[]float64{-inf, -inf, -inf}, -inf, nil},
		{[]float64{nan, 3, 1, 2, 1}, 0, []int64{3}}, {[]float64{1, nan, 1}, 0, nil}, {[]float64{nan, 5, 1, 4}, -inf, nil}, {[]float64{1, 3, 2}, nan, nil}, {[]float64{1, 3, 2}, -inf, []int64{1}},
	} {
		places, code := impl.PeaksOf(c.p, c.floor)
		wantPlaces(t, fmt.Sprintf("PeaksOf %v with the floor %v", c.p, c.floor), places, code, c.want...)
	}
	full := make([]float64, 257)
	for i := range full {
		full[i] = float64(i % 2)
	}
	places, code := impl.PeaksOf(full[:256], 1)
	want(t, "PeaksOf MaxSignal numbers", [2]int64{int64(len(places)), code}, [2]int64{128, impl.OK})
}

func TestPromise14PeakErrors(t *testing.T) {
	p := slices.Repeat([]float64{1, 4, 3, 0}, 65)
	for _, c := range []struct {
		length int
		code   int64
	}{
		{0, impl.ErrRange}, {1, impl.ErrRange}, {2, impl.ErrRange}, {3, impl.OK}, {4, impl.OK}, {255, impl.OK}, {256, impl.OK}, {257, impl.ErrLimit}, {260, impl.ErrLimit},
	} {
		for _, floor := range []float64{0, inf, nan} {
			places, code := impl.PeaksOf(p[:c.length], floor)
			want(t, fmt.Sprint("PeaksOf ", c, floor), code, c.code)
			want(t, fmt.Sprint("PeaksOf ", c, floor, ": something is told"), len(places) != 0, c.code == impl.OK && floor == 0)
		}
		for _, k := range append(oddIntegers(), int64(c.length-1), int64(c.length)) {
			offset, value, code := impl.PeakBetween(p[:c.length], k)
			name := fmt.Sprintf("PeakBetween of %d numbers at %d", c.length, k)
			expected := c.code
			if c.code == impl.OK && (k < 0 || k >= int64(c.length)) {
				expected = impl.ErrRange
			}
			if expected == impl.OK {
				wantOffset, wantValue, told := toldTop(p[:c.length], int(k))
				want(t, name+": code", code, told)
				wantSame(t, name, complex(offset, value), complex(wantOffset, wantValue))
				continue
			}
			want(t, name+": code", code, expected)
			wantSame(t, name, complex(offset, value), 0)
		}
	}
}

func TestPromise14TopsByTheirRules(t *testing.T) {
	for p := range eachPowers {
		if len(p) < 3 {
			continue
		}
		for k := range p {
			offset, value, code := impl.PeakBetween(p, int64(k))
			wantOffset, wantValue, expected := toldTop(p, k)
			name := fmt.Sprintf("PeakBetween of %v at %d", p, k)
			want(t, name+": code", code, expected)
			wantSame(t, name, complex(offset, value), complex(wantOffset, wantValue))
		}
	}
	hash := hashOf(func(yield func(string) bool) {
		for p := range eachListOfPowers {
			for k := range int64(len(p)) {
				offset, value, _ := impl.PeakBetween(p, k)
				wideLines(yield, []complex128{complex(offset, value)})
			}
		}
	})
	want(t, "hash of tops", hash, 0xce4cb9bb3d433a42)
}

func TestPromise14Tops(t *testing.T) {
	for _, c := range []struct {
		p             []float64
		k             int64
		offset, value float64
	}{
		{[]float64{1, 4, 3}, 1, 0.25, 4.125}, {[]float64{3, 4, 1}, 1, -0.25, 4.125}, {[]float64{1, 0, 3}, 1, -0.25, -0.125}, {[]float64{0, 2, 1}, 1, 1.0 / 6, 2 + 0.25/6},
		// Both ends, whose neighbours stand at the other end.
		{[]float64{4, 3, 1}, 0, 0.25, 4.125}, {[]float64{4, 3, 0, 1}, 0, 0.25, 4.125}, {[]float64{1, 3, 4}, 2, -0.25, 4.125}, {[]float64{1, 0, 3, 4}, 3, -0.25, 4.125}, {[]float64{3, 1, 9, 4}, 3, 0.75, 2.875},
		// Offsets of just -1 and 1, and within.
		{[]float64{0, 3, 4}, 1, 1, 4}, {[]float64{4, 3, 0}, 1, -1, 4}, {[]float64{-3, 0, 1}, 1, 1, 1}, {[]float64{1, 0, -3}, 1, -1, 1}, {[]float64{2, 1, 2}, 1, 0, 1},
		{[]float64{1, 4, 1}, 1, minus0, 4}, {[]float64{1, 0, 1}, 1, 0, 0}, {[]float64{minus0, 4, minus0}, 1, minus0, 4}, {[]float64{0, 1, minus0, 7}, 1, minus0, 1}, {[]float64{minus0, -1, 0, 7}, 1, minus0, -1},
		{[]float64{1, inf, 2}, 1, 0, inf}, {[]float64{1, -inf, 2}, 1, minus0, -inf}, {[]float64{2, great, 1}, 1, minus0, great}, {[]float64{great, -great, great}, 1, 0, -great},
		{[]float64{least, 4 * least, 3 * least}, 1, 0.25, 4 * least}, {[]float64{1, 3, 1 + math.Ldexp(1, -52)}, 1, math.Ldexp(1, -55), 3},
	} {
		offset, value, code := impl.PeakBetween(c.p, c.k)
		wantTop(t, fmt.Sprintf("PeakBetween of %v at %d", c.p, c.k), offset, value, code, c.offset, c.value)
	}
	beyond, within := math.Nextafter(4, 5), math.Nextafter(4, 3)
	for _, p := range [][]float64{
		{1, 2, 3}, {5, 5, 5}, {0, 0, 0}, {minus0, 0, minus0}, {least, least, least}, {2, 4, 6}, {0, 3, beyond}, {beyond, 3, 0}, {1, 2, 4}, {4, 2, 1},
		{nan, 1, 2}, {1, nan, 2}, {1, 2, nan}, {inf, inf, 1}, {1, inf, inf}, {inf, 1, 1}, {1, 1, inf}, {inf, 1, inf}, {-inf, 1, inf}, {inf, 1, -inf}, {-inf, -inf, 0}, {great, 0, great / -2},
	} {
		offset, value, code := impl.PeakBetween(p, 1)
		wantSame(t, fmt.Sprintf("PeakBetween of %v", p), complex(offset, value), 0)
		want(t, fmt.Sprintf("PeakBetween of %v: code", p), code, impl.ErrState)
	}
	for _, p := range [][]float64{{0, 3, within}, {within, 3, 0}} {
		offset, _, code := impl.PeakBetween(p, 1)
		want(t, fmt.Sprintf("PeakBetween of %v: code", p), code, impl.OK)
		want(t, fmt.Sprintf("PeakBetween of %v: offset", p), math.Abs(offset) > 0.999 && math.Abs(offset) < 1, true)
	}
}

// wantRealOrState asks for a number, or for ErrState and 0.
func wantRealOrState(t *testing.T, name string, got float64, code int64, expected float64, expectedCode int64) {
	t.Helper()
	wantSameReal(t, name, got, expected)
	want(t, name+": code", code, expectedCode)
}

func TestPromise14MiddlesByTheirRules(t *testing.T) {
	for p := range eachPowers {
		centroid, code := impl.CentroidOf(p)
		expected, expectedCode := toldCentroid(p)
		wantRealOrState(t, fmt.Sprint("CentroidOf ", p), centroid, code, expected, expectedCode)
		median, code := impl.MedianOf(p)
		expected, expectedCode = toldMedian(p)
		wantRealOrState(t, fmt.Sprint("MedianOf ", p), median, code, expected, expectedCode)
		q := slices.Clone(p)
		slices.Reverse(q)
		apart, code := impl.PowersApart(p, q)
		wantReal(t, fmt.Sprint("PowersApart ", p), apart, code, toldApart(p, q))
	}
	hash := hashOfLists(func(x []complex128) [][]complex128 {
		p, q := partsOf(x)
		first, _ := impl.CentroidOf(p)
		second, _ := impl.CentroidOf(q)
		median, _ := impl.MedianOf(p)
		other, _ := impl.MedianOf(q)
		apart, _ := impl.PowersApart(p, q)
		return [][]complex128{{complex(first, median), complex(second, other), complex(apart, 0)}}
	})
	want(t, "hash of middles", hash, 0x2ffda40cab4dac2f)
}

func TestPromise14Centroids(t *testing.T) {
	for _, c := range []struct {
		p    []float64
		want float64
	}{
		{[]float64{1, 0, 3}, 1.5}, {[]float64{7}, 0}, {[]float64{-7}, 0}, {[]float64{1, 1}, 0.5}, {[]float64{0, 0, 0, 2}, 3}, {[]float64{-1, 3}, 1.5}, {[]float64{3, -1}, -0.5}, {[]float64{1, -2}, 2},
		{[]float64{least}, 0}, {[]float64{0, least}, 1}, {[]float64{inf}, nan}, {[]float64{1, inf}, nan}, {[]float64{1, -inf}, nan}, {[]float64{great, great}, 0}, {[]float64{great / 4, great / 4, great / 4}, 1}, {[]float64{0, 0, great}, inf},
		// Sums from left to right.
		{[]float64{1 << 53, 1, 1}, 3 / float64(1<<53)}, {[]float64{1, 1, 1 << 53}, float64(1<<54) / float64(1<<53+2)},
		{[]float64{0.1, 0.2, 0.3}, float64(0.2+float64(2*0.3)) / (float64(0.1) + 0.2 + 0.3)},
	} {
		centroid, code := impl.CentroidOf(c.p)
		expected, _ := toldCentroid(c.p)
		wantReal(t, fmt.Sprint("CentroidOf, told, ", c.p), centroid, code, expected)
		wantReal(t, fmt.Sprint("CentroidOf ", c.p), centroid, code, c.want)
	}
	for _, p := range [][]float64{nil, {}, {0}, {minus0}, {1, -1}, {0, 0, 0}, {nan}, {1, nan, 2}, {inf, -inf}, {1, 2, -3}, {least, -least}} {
		centroid, code := impl.CentroidOf(p)
		wantNoReal(t, fmt.Sprint("CentroidOf ", p), centroid, code, impl.ErrState)
	}
}

func TestPromise14Medians(t *testing.T) {
	for _, c := range []struct {
		p    []float64
		want float64
	}{
		{[]float64{5, 1, 4, 2}, 2}, {[]float64{5, 1, 4}, 4}, {[]float64{7}, 7}, {[]float64{2, 1}, 1}, {[]float64{1, 2}, 1}, {[]float64{3, 2, 1}, 2}, {[]float64{1, 1, 0, 0}, 0}, {[]float64{4, 4, 1, 4}, 4},
		// 0 and -0 stay in the order in which they come.
		{[]float64{0, minus0}, 0}, {[]float64{minus0, 0}, minus0}, {[]float64{0, minus0, 0}, minus0}, {[]float64{minus0, 0, minus0}, 0}, {[]float64{0, 0, minus0, minus0}, 0}, {[]float64{minus0, minus0, 0}, minus0},
		{[]float64{0, 1, minus0}, minus0}, {[]float64{minus0, 1, 0}, 0}, {[]float64{1, 0, -1, minus0}, 0}, {[]float64{1, minus0, -1, 0}, minus0}, {[]float64{-1, 1, 0, minus0, -2}, 0},
		{[]float64{inf, -inf, 0}, 0}, {[]float64{inf, inf, 0}, inf}, {[]float64{-inf, inf}, -inf}, {[]float64{least, minus0, -least}, minus0}, {[]float64{great, -great, 3, 2}, 2},
	} {
		median, code := impl.MedianOf(c.p)
		wantReal(t, fmt.Sprint("MedianOf ", c.p), median, code, c.want)
	}
	for _, p := range [][]float64{nil, {}, {nan}, {otherNaN, 1}, {1, nan}, {1, 2, nan, 3}, {inf, nan}} {
		median, code := impl.MedianOf(p)
		wantNoReal(t, fmt.Sprint("MedianOf ", p), median, code, impl.ErrState)
	}
}

// TestPromise14MediansOfMixedZeros has more numbers than a sort would leave in
// their order by chance.
func TestPromise14MediansOfMixedZeros(t *testing.T) {
	for n := 1; n <= impl.MaxSignal; n++ {
		p := make([]float64, n)
		for i := range p {
			p[i] = []float64{0, minus0, minus0, 1, 0, -1, minus0}[(i*i+n)%7]
		}
		median, code := impl.MedianOf(p)
		expected, _ := toldMedian(p)
		wantReal(t, fmt.Sprintf("MedianOf %d numbers", n), median, code, expected)
	}
}

func TestPromise14PowersApart(t *testing.T) {
	for _, c := range []struct {
		p, q []float64
		want float64
	}{
		{nil, nil, 0}, {[]float64{1, 2}, []float64{3, 1}, 3}, {[]float64{-1}, []float64{1}, 2}, {[]float64{minus0}, []float64{minus0}, 0}, {[]float64{minus0}, []float64{0}, 0}, {[]float64{5, 5}, []float64{5, 5}, 0},
		{[]float64{inf}, []float64{1}, inf}, {[]float64{inf}, []float64{inf}, nan}, {[]float64{inf}, []float64{-inf}, inf}, {[]float64{nan, 1}, []float64{1, 1}, nan}, {[]float64{great}, []float64{-great}, inf}, {[]float64{great, great}, []float64{0, 0}, inf},
		{[]float64{1 << 53, 1, 1}, []float64{0, 0, 0}, 1 << 53}, {[]float64{1, 1, 1 << 53}, []float64{0, 0, 0}, 1<<53 + 2}, {[]float64{1, -1 << 53}, []float64{0, 1}, 1 << 53}, {[]float64{1, -1 << 53}, []float64{0, 3}, 1<<53 + 4}, {[]float64{least}, []float64{3 * least}, 2 * least},
	} {
		apart, code := impl.PowersApart(c.p, c.q)
		wantReal(t, fmt.Sprint("PowersApart ", c.p, c.q), apart, code, c.want)
		apart, code = impl.PowersApart(c.q, c.p)
		wantReal(t, fmt.Sprint("PowersApart ", c.q, c.p), apart, code, c.want)
	}
}

func TestPromise14ListErrors(t *testing.T) {
	p := slices.Repeat([]float64{1}, 257)
	for _, a := range []int{0, 1, 2, 255, 256, 257} {
		name := fmt.Sprint(" of ", a)
		isLong, isEmpty := a > impl.MaxSignal, a == 0
		codeIf := func(isError bool, code int64) int64 {
			if isLong {
				return impl.ErrLimit
			}
			if isError {
				return code
			}
			return impl.OK
		}
		centroid, code := impl.CentroidOf(p[:a])
		want(t, "CentroidOf"+name, code, codeIf(isEmpty, impl.ErrState))
		want(t, "CentroidOf: something is told"+name, centroid != 0, a > 1 && !isLong)
		median, code := impl.MedianOf(p[:a])
		want(t, "MedianOf"+name, code, codeIf(isEmpty, impl.ErrState))
		want(t, "MedianOf: something is told"+name, median != 0, a > 0 && !isLong)
		powers, code := impl.PowersOf(drawnNumbers(a))
		wantCount(t, "PowersOf"+name, powers, code, a, codeIf(false, impl.OK))
		for _, b := range []int{0, 1, 2, 255, 256, 257} {
			q := make([]float64, b)
			apart, code := impl.PowersApart(p[:a], q)
			expected := codeIf(a != b, impl.ErrRange)
			if b > impl.MaxSignal {
				expected = impl.ErrLimit
			}
			want(t, fmt.Sprint("PowersApart of ", a, b), code, expected)
			want(t, fmt.Sprint("PowersApart: something is told of ", a, b), apart != 0, expected == impl.OK && a > 0)
		}
	}
	long := append([]float64{nan}, p...)
	centroid, code := impl.CentroidOf(long)
	wantNoReal(t, "CentroidOf a long list with NaN", centroid, code, impl.ErrLimit)
	median, code := impl.MedianOf(long)
	wantNoReal(t, "MedianOf a long list with NaN", median, code, impl.ErrLimit)
}
