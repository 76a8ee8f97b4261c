package tests

import (
	"fmt"
	"math"
	"slices"
	"testing"

	"loop.example/g01155/impl"
)

// somePairs has all pairs of signals of short lengths, and ordinary ones of
// lengths at the limits.
func somePairs(yield func(x, h []complex128) bool) {
	for a := range 6 {
		for b := range 6 {
			for _, x := range signalsOfLength(a) {
				for _, h := range signalsOfLength(b) {
					if !yield(x, h) {
						return
					}
				}
			}
		}
	}
	for _, l := range []lengths{{1, 256}, {256, 1}, {9, 9}, {17, 40}, {40, 17}, {20, 237}, {250, 7}, {255, 2}, {2, 255}} {
		if !yield(drawnNumbers(l.a), ruledSignal(l.b)) {
			return
		}
	}
}

func nameOf(name string, x, h []complex128) string {
	if len(x)+len(h) > 12 {
		return fmt.Sprintf("%s of %d and %d numbers", name, len(x), len(h))
	}
	return fmt.Sprintf("%s of %v and %v", name, x, h)
}

func TestPromise9ConvolutionsByTheirRules(t *testing.T) {
	for x, h := range somePairs {
		got, code := impl.Convolve(x, h)
		wantSignal(t, nameOf("Convolve", x, h), got, code, toldConvolution(x, h)...)
		narrowX, narrowH := narrowed(x), narrowed(h)
		narrowGot, code := impl.NarrowConvolve(narrowX, narrowH)
		told := width(narrow).convolved(widened(narrowX), widened(narrowH))
		wantSignal(t, nameOf("NarrowConvolve", x, h), widened(narrowGot), code, told...)
	}
}

func TestPromise9Convolutions(t *testing.T) {
	e := math.Ldexp(1, -30)
	for _, c := range []struct{ x, h, want []complex128 }{
		{nil, nil, nil}, {nil, []complex128{1, 2}, nil}, {[]complex128{1, 2}, nil, nil}, {[]complex128{}, []complex128{}, nil},
		{[]complex128{3}, []complex128{2i}, []complex128{6i}},
		{[]complex128{1, 2, 3}, []complex128{2}, []complex128{2, 4, 6}},
		{[]complex128{2}, []complex128{1, 2, 3}, []complex128{2, 4, 6}},
		{[]complex128{1, 10}, []complex128{1, 2, 3, 4}, []complex128{1, 12, 23, 34, 40}},
		{[]complex128{1, 2, 3, 4}, []complex128{1, 10}, []complex128{1, 12, 23, 34, 40}},
		{[]complex128{1 + 1i, 2}, []complex128{1i, 3 - 1i}, []complex128{-1 + 1i, 4 + 4i, 6 - 2i}},
		// The order is that of the numbers of h.
		{[]complex128{1, 1e16, -1e16}, []complex128{1, 1, 1}, []complex128{1, 1e16, 1, 0, -1e16}},
		{[]complex128{1, 1, 1}, []complex128{1, 1e16, -1e16}, []complex128{1, 1e16, 0, 0, -1e16}},
		{[]complex128{1i, 1e16i, -1e16i}, []complex128{1, 1, 1}, []complex128{1i, 1e16i, 1i, 0, complex(0, -1e16)}},
		// Products are rounded before they are added.
		{[]complex128{complex(-1-2*e, 0), complex(1+e, 0)}, []complex128{complex(1+e, 0), 1}, []complex128{complex(-1-3*e-2*e*e, 0), 0, complex(1+e, 0)}},
		// 0 ahead of the first term would make 0 of -0.
		{[]complex128{complex(minus0, 0)}, []complex128{1}, []complex128{complex(minus0, 0)}},
		{[]complex128{complex(-1, minus0)}, []complex128{1}, []complex128{complex(-1, minus0)}},
		{[]complex128{complex(minus0, 0), complex(minus0, 0)}, []complex128{1, 1}, []complex128{complex(minus0, 0), complex(minus0, 0), complex(minus0, 0)}},
		{[]complex128{complex(inf, 0), 1}, []complex128{1, 0}, []complex128{complex(inf, nan), complex(nan, nan), 0}},
		{[]complex128{1, complex(nan, 0), 1}, []complex128{2, 1}, []complex128{2, complex(nan, nan), complex(nan, nan), 1}},
		{complexOf([]float64{great, great}), []complex128{1, 1}, complexOf([]float64{great, inf, great})},
	} {
		got, code := impl.Convolve(c.x, c.h)
		wantSignal(t, nameOf("Convolve", c.x, c.h), got, code, c.want...)
	}
}

// TestPromise9NarrowConvolutions has numbers that would be others if products
// or sums were wide ones on the way.
func TestPromise9NarrowConvolutions(t *testing.T) {
	e, big := float32(math.Ldexp(1, -20)), float32(math.Ldexp(1, 100))
	zero := float32(minus0)
	huge := complex(float32(inf), 0)
	for _, c := range []struct{ x, h, want []complex64 }{
		{nil, nil, nil}, {nil, []complex64{1}, nil}, {[]complex64{1}, []complex64{}, nil},
		{[]complex64{1, 2}, []complex64{2i}, []complex64{2i, 4i}},
		{[]complex64{1, 1, 1 << 24}, []complex64{1, 1, 1}, []complex64{1, 2, 1 << 24, 1 << 24, 1 << 24}},
		{[]complex64{1 << 24, 1, 1}, []complex64{1, 1, 1}, []complex64{1 << 24, 1 << 24, 1<<24 + 2, 2, 1}},
		{[]complex64{complex(-1-2*e, 0), complex(1+e, 0)}, []complex64{complex(1+e, 0), 1}, []complex64{complex(-1-3*e, 0), 0, complex(1+e, 0)}},
		{[]complex64{complex(big, 0), complex(big, 0)}, []complex64{complex(big, 0), complex(-big, 0)}, []complex64{huge, complex(float32(nan), 0), complex(-float32(inf), 0)}},
		{[]complex64{complex(zero, 0)}, []complex64{1}, []complex64{complex(zero, 0)}},
	} {
		got, code := impl.NarrowConvolve(c.x, c.h)
		wantSignal(t, nameOf("NarrowConvolve", widened(c.x), widened(c.h)), widened(got), code, widened(c.want)...)
	}
}

func TestPromise9CirclesByTheirRules(t *testing.T) {
	for _, n := range []int{0, 1, 2, 3, 4, 5, 7, 12, 40, 97, 256} {
		list := fewerSignals(n)
		for i, x := range list {
			for k, h := range list {
				if n > 5 && k != (i+1)%len(list) {
					continue
				}
				plain, code := impl.CircleConvolve(x, h)
				wantSignal(t, nameOf("CircleConvolve", x, h), plain, code, toldCircle(x, h)...)
				fast, code := impl.CircleFast(x, h)
				wantSignal(t, nameOf("CircleFast", x, h), fast, code, toldCircleFast(x, h)...)
			}
		}
	}
	for _, c := range []struct{ x, h, want []complex128 }{
		{[]complex128{3}, []complex128{2i}, []complex128{6i}},
		{[]complex128{1, 2}, []complex128{10, 1}, []complex128{12, 21}},
		{[]complex128{1, 2, 3}, []complex128{0, 1, 0}, []complex128{3, 1, 2}},
		{[]complex128{0, 1, 0}, []complex128{1, 2, 3}, []complex128{3, 1, 2}},
		{[]complex128{1, 1e16, -1e16}, []complex128{1, 1, 1}, []complex128{0, 0, 1}},
		{[]complex128{complex(minus0, 0)}, []complex128{1}, []complex128{complex(minus0, 0)}},
	} {
		got, code := impl.CircleConvolve(c.x, c.h)
		wantSignal(t, nameOf("CircleConvolve", c.x, c.h), got, code, c.want...)
	}
}

func TestPromise9FastConvolutionsByTheirRules(t *testing.T) {
	for x, h := range somePairs {
		got, code := impl.FastConvolve(x, h)
		wantSignal(t, nameOf("FastConvolve", x, h), got, code, toldFast(x, h)...)
	}
	for _, l := range []lengths{{128, 1}, {128, 2}, {64, 65}, {65, 64}, {128, 129}, {3, 3}, {4, 4}, {8, 1}, {8, 2}} {
		x, h := ruledSignal(l.a), otherSignal(l.b)
		got, code := impl.FastConvolve(x, h)
		wantSignal(t, nameOf("FastConvolve", x, h), got, code, toldFast(x, h)...)
	}
}

func TestPromise9SavedConvolutionsByTheirRules(t *testing.T) {
	for a := range 8 {
		for b := 1; b < 6; b++ {
			for _, p := range append(pairsOf(a, b), [2][]complex128{drawnNumbers(a), signalsOfLength(b)[3]}) {
				for _, size := range []int{b, b + 1, b + 2, 2 * b, 7, 16} {
					got, code := impl.SaveConvolve(p[0], p[1], int64(size))
					wantSignal(t, nameOf(fmt.Sprintf("SaveConvolve by %d", size), p[0], p[1]), got, code, toldSaved(p[0], p[1], size)...)
				}
			}
		}
	}
	for _, c := range [][3]int{{100, 50, 50}, {250, 7, 7}, {250, 7, 13}, {250, 7, 256}, {1, 256, 256}, {256, 1, 1}, {256, 1, 256}, {6, 251, 255}, {128, 129, 256}} {
		x, h := ruledSignal(c[0]), otherSignal(c[1])
		got, code := impl.SaveConvolve(x, h, int64(c[2]))
		wantSignal(t, nameOf(fmt.Sprintf("SaveConvolve by %d", c[2]), x, h), got, code, toldSaved(x, h, c[2])...)
	}
}

// TestPromise9BitsOfManyConvolutions holds them against a program outside of
// this one.
func TestPromise9BitsOfManyConvolutions(t *testing.T) {
	for _, c := range []struct {
		name  string
		pairs func(yield func(x, h []complex128) bool)
		run   func(x, h []complex128) ([]complex128, int64)
		want  uint64
	}{
		{"Convolve", eachPair, impl.Convolve, 0x20f533ae413386fe},
		{"CircleConvolve", eachCircle, impl.CircleConvolve, 0x2cb67a8dcc18d0db},
		{"CircleFast", eachCircle, impl.CircleFast, 0xf655cea65ff0840e},
		{"FastConvolve", eachPair, impl.FastConvolve, 0xdb7905c13aff9d3e},
	} {
		want(t, "hash of "+c.name, hashOfPairs(c.pairs, signalAlone(c.run)), c.want)
	}
	bounds := hashOfPairs(eachPair, func(x, h []complex128) []complex128 {
		bound, _ := impl.ConvolutionBound(x, h)
		return []complex128{complex(bound, 0)}
	})
	want(t, "hash of ConvolutionBound", bounds, 0xd0114db614832527)
	narrow := hashOf(func(yield func(string) bool) {
		for x, h := range eachPair {
			list, _ := impl.NarrowConvolve(narrowed(x), narrowed(h))
			narrowLines(yield, list)
		}
	})
	want(t, "hash of NarrowConvolve", narrow, 0x4364d8ab38028a53)
	saved := hashOf(func(yield func(string) bool) {
		for c := range eachSave {
			list, _ := impl.SaveConvolve(c.x, c.h, int64(c.size))
			wideLines(yield, list)
		}
	})
	want(t, "hash of SaveConvolve", saved, 0xdf309b17a929bfbe)
}

// signalsWithin have parts at the borders of what the guarantee speaks of.
func signalsWithin(n int) [][]complex128 {
	small := math.Ldexp(1, -40)
	tiny, mixed := make([]complex128, n), make([]complex128, n)
	for i := range n {
		tiny[i] = complex(small, -small)
		mixed[i] = []complex128{complex(0, small), math.MaxInt32, complex(math.Ldexp(-1, 40), 0), complex(-small, 3), 0}[i*i%5]
	}
	return append(greatSignals(n), tiny, mixed, ruledSignal(n))
}

func boundFor(x, h []complex128) float64 {
	bound, _ := impl.ConvolutionBound(x, h)
	return bound
}

// pairsWithin has all pairs of such signals, but not of the greater lengths, as
// these take time.
func pairsWithin(a, b int) [][2][]complex128 {
	var list [][2][]complex128
	for i, x := range signalsWithin(a) {
		for k, h := range signalsWithin(b) {
			if a+b <= 100 || k == i || k == 0 {
				list = append(list, [2][]complex128{x, h})
			}
		}
	}
	return list
}

func TestPromise9FastAndPlainAreNear(t *testing.T) {
	for _, l := range []lengths{{1, 1}, {1, 5}, {5, 1}, {3, 6}, {16, 17}, {31, 2}, {60, 60}, {100, 157}, {256, 1}, {1, 256}, {129, 128}} {
		sizes := slices.Compact([]int{l.b + l.a/3, min(max(2*l.b, l.b+l.a/3), 256), 256})
		for _, p := range pairsWithin(l.a, l.b) {
			x, h := p[0], p[1]
			plain, _ := impl.Convolve(x, h)
			fast, _ := impl.FastConvolve(x, h)
			wantNear(t, nameOf("FastConvolve", x, h), fast, plain, boundFor(x, h))
			for _, size := range sizes {
				saved, _ := impl.SaveConvolve(x, h, int64(size))
				wantNear(t, nameOf("SaveConvolve", x, h), saved, plain, boundFor(x, h))
			}
		}
	}
	for _, n := range []int{1, 2, 3, 7, 16, 30, 97, 128, 251, 256} {
		for _, p := range pairsWithin(n, n) {
			plain, _ := impl.CircleConvolve(p[0], p[1])
			fast, _ := impl.CircleFast(p[0], p[1])
			wantNear(t, nameOf("CircleFast", p[0], p[1]), fast, plain, boundFor(p[0], p[1]))
		}
	}
}

func TestPromise9Bounds(t *testing.T) {
	long := slices.Repeat([]complex128{1 - 1i}, impl.MaxSignal+1)
	for _, c := range []struct {
		x, h []complex128
		want float64
	}{
		{nil, nil, 0}, {nil, []complex128{5}, 0}, {[]complex128{5}, nil, 0}, {nil, complexOf([]float64{inf}), nan}, {complexOf([]float64{nan}), nil, nan},
		{[]complex128{1024}, []complex128{1048576}, 1}, {[]complex128{-3 - 4i}, []complex128{5i, -2}, 49.0 / 1073741824},
		{[]complex128{complex(1<<53, 1), 1}, []complex128{1}, math.Ldexp(1, 23)},
		{[]complex128{1 + 1i, complex(0, 1<<53)}, []complex128{1}, math.Ldexp(1, 23) + math.Ldexp(1, -29)},
		{[]complex128{1}, []complex128{complex(1, -1), 1 << 53}, math.Ldexp(1, 23) + math.Ldexp(1, -29)},
		{[]complex128{1e200}, []complex128{1e200}, inf}, {[]complex128{complex(0, -inf)}, []complex128{1}, inf},
		{[]complex128{complex(minus0, minus0)}, []complex128{complex(minus0, minus0)}, 0},
		{complexOf([]float64{least}), []complex128{1073741824}, least}, {complexOf([]float64{least}), []complex128{1}, 0},
		{long[1:], long[1:], 512.0 * 512 / 1073741824},
	} {
		bound, code := impl.ConvolutionBound(c.x, c.h)
		wantSameReal(t, nameOf("ConvolutionBound", c.x, c.h), bound, c.want)
		want(t, "ConvolutionBound: code", code, impl.OK)
		wantSameReal(t, nameOf("ConvolutionBound", c.x, c.h), bound, toldConvolutionBound(c.x, c.h))
	}
	for _, p := range [][2][]complex128{{long, nil}, {nil, long}, {long, long}, {long, long[1:]}, {long[1:], long}} {
		bound, code := impl.ConvolutionBound(p[0], p[1])
		wantSameReal(t, "ConvolutionBound of long signals", bound, 0)
		want(t, "ConvolutionBound of long signals", code, impl.ErrLimit)
	}
}

func TestPromise9Limits(t *testing.T) {
	for _, c := range []struct {
		a, b int
		code int64
	}{
		{0, 0, impl.OK}, {256, 0, impl.OK}, {0, 256, impl.OK}, {256, 1, impl.OK}, {1, 256, impl.OK}, {200, 57, impl.OK}, {128, 129, impl.OK},
		{256, 2, impl.ErrLimit}, {2, 256, impl.ErrLimit}, {200, 58, impl.ErrLimit}, {129, 129, impl.ErrLimit}, {256, 256, impl.ErrLimit},
		{257, 0, impl.ErrLimit}, {0, 257, impl.ErrLimit}, {257, 1, impl.ErrLimit}, {1, 257, impl.ErrLimit}, {257, 257, impl.ErrLimit},
	} {
		x, h := drawnNumbers(c.a), drawnNumbers(c.b)
		narrow, code := impl.NarrowConvolve(narrowed(x), narrowed(h))
		wantCount(t, fmt.Sprint("NarrowConvolve ", c), narrow, code, lengthOf(x, h), c.code)
		saved, code := impl.SaveConvolve(x, h, 256)
		wantCount(t, fmt.Sprint("SaveConvolve ", c), saved, code, lengthOf(x, h), c.code)
		for name, run := range map[string]func(x, h []complex128) ([]complex128, int64){
			"Convolve": impl.Convolve, "FastConvolve": impl.FastConvolve, "Correlate": impl.Correlate, "FastCorrelate": impl.FastCorrelate,
		} {
			got, code := run(x, h)
			wantCount(t, fmt.Sprint(name, " ", c), got, code, lengthOf(x, h), c.code)
		}
	}
}

// wantCount asks for so many numbers, or for an error and none.
func wantCount[T any](t *testing.T, name string, got []T, code int64, count int, expected int64) {
	t.Helper()
	if expected != impl.OK {
		count = 0
	}
	want(t, name+": code", code, expected)
	want(t, name+": count", len(got), count)
}

func TestPromise9SaveErrors(t *testing.T) {
	for _, c := range []struct {
		a, b int
		size int64
		code int64
	}{
		{3, 2, 2, impl.OK}, {3, 2, 1, impl.ErrRange}, {3, 2, 0, impl.ErrRange}, {3, 2, -2, impl.ErrRange}, {3, 2, 256, impl.OK}, {3, 2, 257, impl.ErrRange},
		{1, 1, 1, impl.OK}, {1, 1, 0, impl.ErrRange}, {1, 256, 256, impl.OK}, {1, 256, 255, impl.ErrRange}, {1, 256, 257, impl.ErrRange},
		{3, 2, math.MaxInt64, impl.ErrRange}, {3, 2, math.MinInt64, impl.ErrRange}, {3, 2, 1<<32 + 3, impl.ErrRange},
		{0, 2, 2, impl.OK}, {0, 2, 1, impl.ErrRange}, {0, 2, 257, impl.ErrRange}, {0, 256, 256, impl.OK}, {0, 256, 255, impl.ErrRange},
		{3, 0, 0, impl.OK}, {3, 0, -1, impl.OK}, {3, 0, 257, impl.OK}, {3, 0, math.MinInt64, impl.OK}, {3, 0, math.MaxInt64, impl.OK},
		{0, 0, 0, impl.OK}, {0, 0, -7, impl.OK}, {0, 0, 1000, impl.OK}, {256, 0, 300, impl.OK},
		{200, 57, 57, impl.OK}, {200, 57, 56, impl.ErrRange}, {200, 58, 58, impl.ErrLimit}, {200, 58, 57, impl.ErrLimit}, {200, 58, 257, impl.ErrLimit},
		{257, 0, 0, impl.ErrLimit}, {257, 2, 1, impl.ErrLimit}, {0, 257, 257, impl.ErrLimit}, {0, 257, 0, impl.ErrLimit}, {257, 257, 1, impl.ErrLimit},
	} {
		x, h := ruledSignal(c.a), ruledSignal(c.b)
		got, code := impl.SaveConvolve(x, h, c.size)
		wantCount(t, fmt.Sprint("SaveConvolve ", c), got, code, lengthOf(x, h), c.code)
	}
}

func TestPromise9CircleErrors(t *testing.T) {
	for _, c := range []struct {
		a, b int
		code int64
	}{
		{0, 0, impl.OK}, {1, 1, impl.OK}, {256, 256, impl.OK}, {3, 2, impl.ErrRange}, {2, 3, impl.ErrRange}, {0, 1, impl.ErrRange}, {1, 0, impl.ErrRange},
		{256, 255, impl.ErrRange}, {257, 257, impl.ErrLimit}, {257, 3, impl.ErrLimit}, {3, 257, impl.ErrLimit}, {0, 257, impl.ErrLimit}, {257, 0, impl.ErrLimit},
	} {
		x, h := ruledSignal(c.a), ruledSignal(c.b)
		plain, code := impl.CircleConvolve(x, h)
		wantCount(t, fmt.Sprint("CircleConvolve ", c), plain, code, c.a, c.code)
		fast, code := impl.CircleFast(x, h)
		wantCount(t, fmt.Sprint("CircleFast ", c), fast, code, c.a, c.code)
	}
}
