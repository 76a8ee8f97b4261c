package tests

import (
	"fmt"
	"math"
	"slices"
	"testing"

	"loop.example/g01155/impl"
)

func TestPromise11CorrelationsByTheirRules(t *testing.T) {
	for x, y := range somePairs {
		got, code := impl.Correlate(x, y)
		wantSignal(t, nameOf("Correlate", x, y), got, code, toldCorrelation(x, y)...)
		fast, code := impl.FastCorrelate(x, y)
		wantSignal(t, nameOf("FastCorrelate", x, y), fast, code, toldFast(x, turned(y))...)
	}
	want(t, "hash of Correlate", hashOfPairs(eachPair, signalAlone(impl.Correlate)), 0x194c910b6b81d568)
	want(t, "hash of FastCorrelate", hashOfPairs(eachPair, signalAlone(impl.FastCorrelate)), 0x74ba3ae3b6f27c)
}

func TestPromise11Correlations(t *testing.T) {
	for _, c := range []struct{ x, y, want []complex128 }{
		{nil, nil, nil}, {nil, []complex128{1, 2}, nil}, {[]complex128{1, 2}, nil, nil}, {[]complex128{}, []complex128{}, nil},
		{[]complex128{3i}, []complex128{2i}, []complex128{6}}, {[]complex128{3}, []complex128{1 + 2i}, []complex128{3 - 6i}},
		{[]complex128{1, 2, 3}, []complex128{10, 1}, []complex128{1, 12, 23, 30}},
		{[]complex128{10, 1}, []complex128{1, 2, 3}, []complex128{30, 23, 12, 1}},
		{[]complex128{1, 0, 0}, []complex128{1, 2i, 3}, []complex128{3, complex(0, -2), 1, 0, 0}},
		{[]complex128{0, 0, 1}, []complex128{1, 2i, 3}, []complex128{0, 0, 3, complex(0, -2), 1}},
		// The order is that of y.
		{[]complex128{1, 1e16, -1e16}, []complex128{1, 1, 1}, []complex128{1, 1e16, 0, 0, -1e16}},
		{[]complex128{-1e16, 1e16, 1}, []complex128{1, 1, 1}, []complex128{-1e16, 0, 1, 1e16, 1}},
		{[]complex128{1, 1, 1}, []complex128{-1e16, 1e16, 1}, []complex128{1, 1e16, 1, 0, complex(-1e16, minus0)}},
		{[]complex128{complex(minus0, 0)}, []complex128{complex(1, minus0)}, []complex128{complex(minus0, 0)}},
		{[]complex128{complex(inf, 0), 1}, []complex128{1, complex(0, minus0)}, []complex128{complex(nan, nan), complex(inf, nan), 1}},
	} {
		got, code := impl.Correlate(c.x, c.y)
		wantSignal(t, nameOf("Correlate", c.x, c.y), got, code, c.want...)
	}
}

// TestPromise11ConvolutionsWithWhatIsTurned holds correlations against
// convolutions: the same sums, if the numbers of x are taken as those of h.
func TestPromise11ConvolutionsWithWhatIsTurned(t *testing.T) {
	for x, y := range eachPair {
		got, code := impl.Correlate(x, y)
		same, _ := impl.Convolve(turned(y), x)
		wantSignal(t, nameOf("Correlate", x, y), got, code, same...)
		fast, code := impl.FastCorrelate(x, y)
		sameFast, _ := impl.FastConvolve(x, turned(y))
		wantSignal(t, nameOf("FastCorrelate", x, y), fast, code, sameFast...)
	}
	for _, l := range []lengths{{1, 1}, {5, 3}, {16, 17}, {60, 60}, {100, 157}} {
		for _, p := range pairsWithin(l.a, l.b) {
			got, _ := impl.Correlate(p[0], p[1])
			other, _ := impl.Convolve(p[0], turned(p[1]))
			fast, _ := impl.FastCorrelate(p[0], p[1])
			wantNear(t, nameOf("Correlate", p[0], p[1]), got, other, boundFor(p[0], p[1]))
			wantNear(t, nameOf("FastCorrelate", p[0], p[1]), fast, got, boundFor(p[0], p[1]))
		}
	}
}

func TestPromise11BestLags(t *testing.T) {
	for _, c := range []struct {
		x, y []complex128
		lag  int64
		size float64
	}{
		{[]complex128{3 + 4i}, []complex128{1}, 0, 5}, {[]complex128{0, 0, 1}, []complex128{1}, 2, 1}, {[]complex128{1}, []complex128{0, 0, 1}, -2, 1},
		{[]complex128{0, 0, 5}, []complex128{2, 0, 0}, 2, 10}, {[]complex128{5, 0, 0}, []complex128{0, 0, 2}, -2, 10},
		{[]complex128{0, 1, 2, 3, 0}, []complex128{1, 2, 3}, 1, 14}, {[]complex128{1i, 2i, 3i}, []complex128{1, 2, 3}, 0, 14},
		// The first one of several is taken, also where all are 0.
		{[]complex128{1, 0, 1}, []complex128{1}, 0, 1}, {[]complex128{0, 1, 0, -1i, 1}, []complex128{1}, 1, 1}, {[]complex128{0, 0}, []complex128{0, 0, 0}, -2, 0},
		{[]complex128{3 + 4i, 5, 4 - 3i}, []complex128{0, 1}, -1, 5}, {[]complex128{1, 1, 1}, []complex128{1, 1}, 0, 2},
		// Nothing is greater than NaN, and NaN is not greater than anything.
		{[]complex128{complex(nan, 0), 7}, []complex128{1}, 0, nan}, {[]complex128{1, complex(nan, 0), 7}, []complex128{1}, 2, 7},
		{[]complex128{7, complex(0, nan), 1}, []complex128{1}, 0, 7}, {[]complex128{7, complex(nan, 1)}, []complex128{1, 1}, -1, 7},
		{[]complex128{1, 1e200, 1e300}, []complex128{1}, 1, inf}, {[]complex128{1e-200, 1e-170, 1e-160}, []complex128{1}, 2, math.Sqrt(1e-160 * 1e-160)},
		{[]complex128{1e-200, 1e-300}, []complex128{1}, 0, 0},
	} {
		lag, size, code := impl.BestLag(c.x, c.y)
		want(t, nameOf("BestLag", c.x, c.y), [2]int64{lag, code}, [2]int64{c.lag, impl.OK})
		wantSameReal(t, nameOf("BestLag: size", c.x, c.y), size, c.size)
	}
	found := hashOfPairs(eachPair, func(x, y []complex128) []complex128 {
		lag, size, code := impl.BestLag(x, y)
		if code != impl.OK {
			return nil
		}
		return []complex128{complex(float64(lag), size)}
	})
	want(t, "hash of BestLag", found, 0xea87ce5ca57318b8)
}

func TestPromise11BestLagErrors(t *testing.T) {
	for _, c := range []struct {
		a, b int
		lag  int64
		code int64
	}{
		{256, 1, 0, impl.OK}, {1, 256, -255, impl.OK}, {200, 57, -56, impl.OK}, {0, 0, 0, impl.ErrNotFound}, {0, 5, 0, impl.ErrNotFound}, {5, 0, 0, impl.ErrNotFound},
		{256, 0, 0, impl.ErrNotFound}, {0, 256, 0, impl.ErrNotFound}, {200, 58, 0, impl.ErrLimit}, {256, 256, 0, impl.ErrLimit},
		{257, 0, 0, impl.ErrLimit}, {0, 257, 0, impl.ErrLimit}, {257, 1, 0, impl.ErrLimit}, {1, 257, 0, impl.ErrLimit},
	} {
		x, y := make([]complex128, c.a), make([]complex128, c.b)
		if c.a > 0 && c.b > 0 {
			x[0], y[c.b-1] = 1, 1
		}
		lag, size, code := impl.BestLag(x, y)
		want(t, fmt.Sprint("BestLag ", c), [2]int64{lag, code}, [2]int64{c.lag, c.code})
		want(t, fmt.Sprint("BestLag: size ", c), size != 0, c.code == impl.OK)
	}
}

func TestPromise11DividedSpectra(t *testing.T) {
	for _, c := range []struct {
		x, h  complex128
		floor float64
		want  complex128
	}{
		{2, 4, 1, 0.5}, {2, 4, 16, 0.5}, {2, 4, 32, 0.25}, {2, 4, math.Nextafter(16, 0), 0.5}, {2, 4, math.Nextafter(16, 17), complex(8/math.Nextafter(16, 17), 0)},
		{3 + 4i, 3 + 4i, 1, 1}, {-5 + 10i, 1 + 2i, 5, 3 + 4i}, {-5 + 10i, 1 + 2i, 10, 1.5 + 2i}, {1, 1i, 1, complex(0, -1)},
		{5, 0, 1, 0}, {complex(-5, -5), 0, 2, complex(minus0, 0)}, {complex(inf, 0), 0, 1, complex(nan, nan)}, {complex(nan, 0), 0, 1, complex(nan, nan)},
		{5, 2, inf, 0}, {-5, 2, inf, complex(minus0, 0)}, {5, complex(inf, 0), 1, complex(nan, nan)}, {5, complex(nan, 0), 2, complex(nan, nan)}, {5, 1e200, 1, 0}, {5, 1e-200, 1e-300, 5e100},
		{5, 1e-200, 1, 5e-200}, {1e300, 1e-100, least, complex(inf, 0)}, {complex(minus0, minus0), 1, 1, complex(minus0, 0)}, {complex(minus0, 1), complex(1, minus0), 1, complex(minus0, 1)},
	} {
		got, code := impl.DivideSpectra([]complex128{c.x}, []complex128{c.h}, c.floor)
		name := fmt.Sprintf("DivideSpectra of %v and %v with the floor %v", c.x, c.h, c.floor)
		wantSignal(t, name, got, code, toldDivided([]complex128{c.x}, []complex128{c.h}, c.floor)...)
		wantSignal(t, name, got, code, c.want)
	}
}

func TestPromise11DividedByTheirRules(t *testing.T) {
	floors := []float64{0.25, 4, inf, least}
	for x, h := range eachCircle {
		for _, floor := range floors {
			got, code := impl.DivideSpectra(x, h, floor)
			wantSignal(t, nameOf("DivideSpectra", x, h), got, code, toldDivided(x, h, floor)...)
		}
	}
	got := hashOf(func(yield func(string) bool) {
		for x, h := range eachCircle {
			for _, floor := range floors {
				list, _ := impl.DivideSpectra(x, h, floor)
				wideLines(yield, list)
			}
		}
	})
	want(t, "hash of DivideSpectra", got, 0x5e2b2de84a7ff776)
	for _, x := range fewNumbers() {
		y := fewNumbers()
		all := slices.Repeat([]complex128{x}, len(y))
		got, code := impl.DivideSpectra(all, y, 0.1)
		wantSignal(t, fmt.Sprint("DivideSpectra of ", x), got, code, toldDivided(all, y, 0.1)...)
	}
}

// badFloors are no floors.
func badFloors() []float64 { return []float64{0, minus0, -1, -least, -inf, nan, otherNaN} }

func TestPromise11DivideErrors(t *testing.T) {
	for _, c := range []struct {
		a, b int
		code int64
	}{
		{0, 0, impl.OK}, {1, 1, impl.OK}, {256, 256, impl.OK}, {3, 2, impl.ErrRange}, {2, 3, impl.ErrRange}, {0, 1, impl.ErrRange}, {1, 0, impl.ErrRange},
		{257, 257, impl.ErrLimit}, {257, 1, impl.ErrLimit}, {1, 257, impl.ErrLimit}, {0, 257, impl.ErrLimit},
	} {
		x, h := ruledSignal(c.a), ruledSignal(c.b)
		for _, floor := range []float64{least, 1, inf} {
			got, code := impl.DivideSpectra(x, h, floor)
			wantCount(t, fmt.Sprint("DivideSpectra ", c, floor), got, code, c.a, c.code)
		}
		for _, floor := range badFloors() {
			got, code := impl.DivideSpectra(x, h, floor)
			wantCode(t, fmt.Sprint("DivideSpectra ", c, floor), got, code, max(c.code, impl.ErrRange))
		}
	}
}

func TestPromise11DeconvolutionsByTheirRules(t *testing.T) {
	for y, h := range somePairs {
		if len(y) == 0 || len(h) == 0 {
			continue
		}
		m := int64(powerOf2(max(len(y), len(h))))
		for _, n := range []int64{0, 1, m - 1, m} {
			got, code := impl.Deconvolve(y, h, 0.5, n)
			wantSignal(t, nameOf(fmt.Sprintf("%d of Deconvolve", n), y, h), got, code, toldDeconvolution(y, h, 0.5, n)...)
		}
	}
	want(t, "hash of Deconvolve", hashOfPairs(eachPair, signalAlone(deconvolved)), 0x138ab7313f7fa105)
}

func TestPromise11DeconvolveErrors(t *testing.T) {
	for _, c := range []struct {
		a, b int
		n    int64
		code int64
	}{
		{1, 1, 0, impl.OK}, {1, 1, 1, impl.OK}, {1, 1, 2, impl.ErrRange}, {3, 1, 4, impl.OK}, {3, 1, 5, impl.ErrRange}, {1, 3, 4, impl.OK}, {1, 3, 5, impl.ErrRange},
		{4, 4, 4, impl.OK}, {4, 4, 5, impl.ErrRange}, {4, 5, 8, impl.OK}, {4, 5, 9, impl.ErrRange}, {256, 129, 256, impl.OK}, {256, 129, 257, impl.ErrRange},
		{129, 2, 256, impl.OK}, {256, 256, 0, impl.OK}, {3, 2, -1, impl.ErrRange}, {3, 2, math.MinInt64, impl.ErrRange}, {3, 2, math.MaxInt64, impl.ErrRange}, {3, 2, 1<<32 + 1, impl.ErrRange},
		{0, 0, 0, impl.ErrRange}, {0, 3, 0, impl.ErrRange}, {3, 0, 0, impl.ErrRange}, {0, 0, 1, impl.ErrRange},
		{257, 1, 0, impl.ErrLimit}, {1, 257, 1, impl.ErrLimit}, {257, 0, 0, impl.ErrLimit}, {0, 257, -1, impl.ErrLimit}, {257, 257, 300, impl.ErrLimit},
	} {
		y, h := ruledSignal(c.a), otherSignal(c.b)
		for _, floor := range []float64{least, 1, inf} {
			got, code := impl.Deconvolve(y, h, floor, c.n)
			wantCount(t, fmt.Sprint("Deconvolve ", c, floor), got, code, int(c.n), c.code)
		}
		for _, floor := range badFloors() {
			got, code := impl.Deconvolve(y, h, floor, c.n)
			wantCode(t, fmt.Sprint("Deconvolve ", c, floor), got, code, max(c.code, impl.ErrRange))
		}
	}
}

// TestPromise11ConvolutionsAreUndone has signals whose spectra keep away from 0,
// as their first number is greater than all others together.
func TestPromise11ConvolutionsAreUndone(t *testing.T) {
	for _, h := range [][]complex128{{2}, {4, 1}, {-5i, 1, 2i}, {8 - 8i, 1, 0, -2i, 3}, append([]complex128{100}, drawnFractions(12)...)} {
		for _, a := range []int{1, 2, 5, 30, 100, 200} {
			x := drawnFractions(a)
			y, code := impl.Convolve(x, h)
			want(t, "Convolve: code", code, impl.OK)
			got, code := impl.Deconvolve(y, h, 0.001, int64(a))
			want(t, "Deconvolve: code", code, impl.OK)
			wantNear(t, "Deconvolve", got, x, 1e-12)
			rest, _ := impl.Deconvolve(y, h, 0.001, int64(powerOf2(len(y))))
			wantNear(t, "Deconvolve, behind the end", rest[a:], make([]complex128, len(rest)-a), 1e-12)
			back, code := impl.RecurSignal(scaled(y[:a], h[0]), opposed(h))
			want(t, "RecurSignal: code", code, impl.OK)
			wantNear(t, "RecurSignal", back, x, 1e-12)
		}
	}
}

// drawnFractions have parts of less than 1 in size.
func drawnFractions(n int) []complex128 {
	list := drawnNumbers(n)
	for i, each := range list {
		_, a := math.Modf(real(each))
		_, b := math.Modf(imag(each))
		list[i] = complex(a, b)
	}
	return list
}

func scaled(x []complex128, by complex128) []complex128 {
	var list []complex128
	for _, each := range x {
		list = append(list, each/by)
	}
	return list
}

// opposed are the numbers with which a convolution with h is undone by one that
// comes back.
func opposed(h []complex128) []complex128 { return scaled(h[1:], -h[0]) }
