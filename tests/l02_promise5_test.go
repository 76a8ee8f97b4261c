package tests

import (
	"math"
	"slices"
	"testing"

	"loop.example/g01155/impl"
)

func narrowSignals(n int) [][]complex64 {
	var list [][]complex64
	for _, x := range fewerSignals(n) {
		list = append(list, narrowed(x))
	}
	return list
}

func TestPromise5NarrowTransformsByTheirRules(t *testing.T) {
	w := width(narrow)
	for _, n := range someLengths() {
		for _, x := range narrowSignals(n) {
			forth, code := impl.NarrowTransform(x)
			wantSignal(t, "NarrowTransform", widened(forth), code, w.fast(widened(x))...)
			back, code := impl.NarrowBack(x)
			wantSignal(t, "NarrowBack", widened(back), code, w.back(widened(x))...)
		}
	}
}

func TestPromise5BitsOfNarrowTransforms(t *testing.T) {
	x := narrowed(ruledSignal(6))
	forth, code := impl.NarrowTransform(x)
	want(t, "NarrowTransform: code", code, impl.OK)
	want(t, "NarrowTransform", narrowText(forth), "40b40000 bf333334\nbdc3be00 3f2a6120\nbffebe9f bf91c01c\nbf600000 3f8ccccd\nc020a0b0 bf0fb2fc\nbfd3c421 c0176514\n")
	back, code := impl.NarrowBack(x)
	want(t, "NarrowBack: code", code, impl.OK)
	want(t, "NarrowBack", narrowText(back), "3f700000 bdeeeef0\nbe8d2d6b bec9dc1b\nbed62b95 bdbf9950\nbe155555 3e3bbbbc\nbea9d46a be42557b\nbc827eab 3de32c2b\n")
}

// TestPromise5BitsOfManyTransforms holds them against a program outside of this
// one.
func TestPromise5BitsOfManyTransforms(t *testing.T) {
	lengths := []int{}
	for n := range 65 {
		lengths = append(lengths, n)
	}
	lengths = append(lengths, 97, 101, 121, 125, 127, 128, 144, 210, 243, 251, 255, 256)
	hashes := map[string]func(yield func(string) bool, n int){
		"NarrowTransform": func(yield func(string) bool, n int) {
			list, _ := impl.NarrowTransform(narrowed(ruledSignal(n)))
			narrowLines(yield, list)
		},
		"NarrowBack": func(yield func(string) bool, n int) {
			list, _ := impl.NarrowBack(narrowed(ruledSignal(n)))
			narrowLines(yield, list)
		},
		"RealPair": func(yield func(string) bool, n int) {
			first, second, _ := impl.RealPair(partsOf(ruledSignal(n)))
			wideLines(yield, first)
			wideLines(yield, second)
		},
		"RealTransform": func(yield func(string) bool, n int) {
			first, _ := partsOf(ruledSignal(n))
			list, _ := impl.RealTransform(first)
			wideLines(yield, list)
		},
	}
	for name, wanted := range map[string]uint64{
		"NarrowTransform": 0x0ef4e9828b14d7be, "NarrowBack": 0xc182a0e0bdeedd1a, "RealPair": 0x8743a58aedb95924, "RealTransform": 0xf391465466a91230,
	} {
		got := hashOf(func(yield func(string) bool) {
			for _, n := range lengths {
				hashes[name](yield, n)
			}
		})
		want(t, "hash of "+name, got, wanted)
	}
}

func TestPromise5NarrowAndWideAreNear(t *testing.T) {
	for _, n := range someLengths() {
		for _, wide := range greatSignals(n) {
			x := narrowed(wide)
			bound, code := impl.NarrowBoundOf(x)
			want(t, "NarrowBoundOf: code", code, impl.OK)
			forth, _ := impl.NarrowTransform(x)
			wideForth, _ := impl.TransformOf(widened(x))
			wantNear(t, "narrow transform", widened(forth), wideForth, bound)
			back, _ := impl.NarrowBack(x)
			wideBack, _ := impl.BackOf(widened(x))
			wantNear(t, "narrow transform back", widened(back), wideBack, bound)
			again, _ := impl.NarrowBack(forth)
			wantNear(t, "narrow transform there and back", widened(again), widened(x), bound)
		}
	}
}

func TestPromise5RealSignalsByTheirRules(t *testing.T) {
	for _, n := range someLengths() {
		for _, x := range fewerSignals(n) {
			reals, others := partsOf(x)
			first, second, code := impl.RealPair(reals, others)
			wantFirst, wantSecond := toldPair(reals, others)
			wantSignal(t, "RealPair, first", first, code, wantFirst...)
			wantSignal(t, "RealPair, second", second, code, wantSecond...)
			alone, code := impl.RealTransform(reals)
			wantAlone, _ := toldPair(reals, make([]float64, n))
			wantSignal(t, "RealTransform", alone, code, wantAlone...)
		}
	}
}

// TestPromise5RealPairOfTwo has differences whose real part is 0, so that the
// sign of the imaginary part of the second transform is seen.
func TestPromise5RealPairOfTwo(t *testing.T) {
	first, second, code := impl.RealPair([]float64{1, 2}, []float64{3, 5})
	wantSignal(t, "RealPair, first", first, code, 3, -1)
	wantSignal(t, "RealPair, second", second, code, complex(8, minus0), complex(-2, minus0))
}

func TestPromise5RealSignalsAreNear(t *testing.T) {
	for _, n := range someLengths() {
		for _, x := range greatSignals(n) {
			reals, others := partsOf(x)
			bound, _ := impl.BoundOf(x)
			first, second, _ := impl.RealPair(reals, others)
			alone, _ := impl.RealTransform(reals)
			plainReals, _ := impl.PlainTransform(complexOf(reals))
			plainOthers, _ := impl.PlainTransform(complexOf(others))
			wantNear(t, "first of a pair", first, plainReals, bound)
			wantNear(t, "second of a pair", second, plainOthers, bound)
			bound, _ = impl.BoundOf(complexOf(reals))
			wantNear(t, "real transform", alone, plainReals, bound)
			for k := range n {
				want(t, "a real transform is mirrored", alone[k], impl.Conjugate(alone[(n-k)%n]))
			}
		}
	}
}

func complexOf(x []float64) []complex128 {
	list := make([]complex128, len(x))
	for i, each := range x {
		list[i] = complex(each, 0)
	}
	return list
}

func TestPromise5RealSignalsErrors(t *testing.T) {
	full, over, short := make([]float64, impl.MaxSignal), make([]float64, impl.MaxSignal+1), make([]float64, 2)
	for _, c := range []struct {
		x, y []float64
		code int64
	}{
		{full, full, impl.OK}, {short, short, impl.OK}, {full, short, impl.ErrRange}, {short, full, impl.ErrRange},
		{nil, short, impl.ErrRange}, {short, nil, impl.ErrRange}, {over, over, impl.ErrLimit}, {over, short, impl.ErrLimit},
		{short, over, impl.ErrLimit}, {nil, over, impl.ErrLimit}, {over, nil, impl.ErrLimit},
	} {
		first, second, code := impl.RealPair(c.x, c.y)
		want(t, "RealPair", code, c.code)
		want(t, "RealPair: first is told", len(first) != 0, c.code == impl.OK)
		want(t, "RealPair: second is told", len(second) != 0, c.code == impl.OK)
	}
	alone, code := impl.RealTransform(full)
	want(t, "RealTransform", len(alone), impl.MaxSignal)
	want(t, "RealTransform", code, impl.OK)
	alone, code = impl.RealTransform(over)
	wantCode(t, "RealTransform", alone, code, impl.ErrLimit)
}

func TestPromise5ChangesByTheirRules(t *testing.T) {
	for _, n := range []int{1, 2, 3, 5, 7, 8, 12, 16, 30, 97, 256} {
		for _, x := range fewerSignals(n) {
			mirrored, code := impl.MirrorSignal(x)
			wantMirrored := []complex128{x[0]}
			for j := n - 1; j > 0; j-- {
				wantMirrored = append(wantMirrored, x[j])
			}
			wantSignal(t, "MirrorSignal", mirrored, code, wantMirrored...)
			for _, k := range placesOf(n) {
				rotated, code := impl.RotateSignal(x, k)
				wantSignal(t, "RotateSignal", rotated, code, slices.Concat(x[k:], x[:k])...)
				modulated, code := impl.ModulateSignal(x, k)
				var wantModulated []complex128
				for j := range x {
					wantModulated = append(wantModulated, toldProduct(x[j], toldTurn(int64(n), int64(j)*k%int64(n))))
				}
				wantSignal(t, "ModulateSignal", modulated, code, wantModulated...)
			}
		}
	}
}

func TestPromise5ChangesOfOrdinarySignals(t *testing.T) {
	x := []complex128{1, 2, 3, 4}
	rotated, code := impl.RotateSignal(x, 1)
	wantSignal(t, "RotateSignal", rotated, code, 2, 3, 4, 1)
	mirrored, code := impl.MirrorSignal(x)
	wantSignal(t, "MirrorSignal", mirrored, code, 1, 4, 3, 2)
	modulated, code := impl.ModulateSignal(x, 1)
	wantSignal(t, "ModulateSignal", modulated, code, 1, 2i, -3, complex(0, -4))
}

// placesOf has the first place of a signal, the last one, and some between.
func placesOf(n int) []int64 {
	if n == 0 {
		return nil
	}
	return []int64{0, int64(1 % n), int64(n / 3), int64(n - 1)}
}

func TestPromise5TransformsOfChangedSignals(t *testing.T) {
	for _, n := range someLengths() {
		for _, x := range greatSignals(n) {
			bound, _ := impl.BoundOf(x)
			whole, _ := impl.TransformOf(x)
			mirrored, _ := impl.MirrorSignal(x)
			got, _ := impl.TransformOf(mirrored)
			expected, _ := impl.MirrorSignal(whole)
			wantNear(t, "mirrored", got, expected, bound)
			for _, k := range placesOf(n) {
				rotated, _ := impl.RotateSignal(x, k)
				got, _ = impl.TransformOf(rotated)
				expected, _ = impl.ModulateSignal(whole, k)
				wantNear(t, "rotated", got, expected, bound)
				modulated, _ := impl.ModulateSignal(x, k)
				got, _ = impl.TransformOf(modulated)
				expected, _ = impl.RotateSignal(whole, (int64(n)-k)%int64(n))
				wantNear(t, "modulated", got, expected, bound)
			}
		}
	}
}

func TestPromise5TransformsOfAddedSignals(t *testing.T) {
	for _, n := range someLengths() {
		list := greatSignals(n)
		for i, x := range list {
			y := list[(i+1)%len(list)]
			first, _ := impl.TransformOf(x)
			second, _ := impl.TransformOf(y)
			added, _ := impl.AddSignals(x, y)
			got, _ := impl.TransformOf(added)
			expected, _ := impl.AddSignals(first, second)
			one, _ := impl.BoundOf(x)
			two, _ := impl.BoundOf(y)
			wantNear(t, "added", got, expected, one+two)
		}
	}
}

func TestPromise5ChangesErrors(t *testing.T) {
	full, over := make([]complex128, impl.MaxSignal), make([]complex128, impl.MaxSignal+1)
	for _, c := range []struct {
		x    []complex128
		k    int64
		code int64
	}{
		{full, 0, impl.OK}, {full, impl.MaxSignal - 1, impl.OK}, {full, impl.MaxSignal, impl.ErrRange}, {full, -1, impl.ErrRange},
		{full[:3], 2, impl.OK}, {full[:3], 3, impl.ErrRange}, {full[:3], -1, impl.ErrRange}, {full[:1], 1, impl.ErrRange},
		{full[:3], math.MinInt64, impl.ErrRange}, {full[:3], math.MaxInt64, impl.ErrRange},
		{nil, 1, impl.ErrRange}, {nil, -1, impl.ErrRange}, {[]complex128{}, 1, impl.ErrRange}, {nil, 0, impl.OK},
		{over, 0, impl.ErrLimit}, {over, -1, impl.ErrLimit}, {over, 1000, impl.ErrLimit},
	} {
		rotated, one := impl.RotateSignal(c.x, c.k)
		modulated, two := impl.ModulateSignal(c.x, c.k)
		want(t, "RotateSignal", one, c.code)
		want(t, "ModulateSignal", two, c.code)
		told := c.code == impl.OK && len(c.x) > 0
		want(t, "something is told", [2]bool{len(rotated) != 0, len(modulated) != 0}, [2]bool{told, told})
	}
	mirrored, code := impl.MirrorSignal(full)
	want(t, "MirrorSignal", len(mirrored), impl.MaxSignal)
	want(t, "MirrorSignal", code, impl.OK)
	mirrored, code = impl.MirrorSignal(over)
	wantCode(t, "MirrorSignal", mirrored, code, impl.ErrLimit)
	for _, run := range []func([]complex64) ([]complex64, int64){impl.NarrowTransform, impl.NarrowBack} {
		got, code := run(narrowed(full))
		want(t, "narrow transform", len(got), impl.MaxSignal)
		want(t, "narrow transform", code, impl.OK)
		got, code = run(narrowed(over))
		wantCode(t, "narrow transform", got, code, impl.ErrLimit)
	}
}

func TestPromise5Bounds(t *testing.T) {
	for _, c := range []struct {
		x    []complex128
		want float64
	}{
		{nil, 0}, {[]complex128{0}, 0}, {[]complex128{complex(minus0, minus0)}, 0}, {[]complex128{-3 - 4i, 5 - 6i}, 18},
		{[]complex128{complex(1, math.Ldexp(1, 53)), 1, complex(0, -1)}, math.Ldexp(1, 53)},
		{[]complex128{complex(1, 1), complex(0, math.Ldexp(1, 53))}, math.Ldexp(1, 53) + 2},
		{[]complex128{complex(math.Ldexp(1, 53), 1), complex(1, 0)}, math.Ldexp(1, 53)},
		{[]complex128{complex(math.Ldexp(1, 53), 0), complex(1, 1)}, math.Ldexp(1, 53)},
		{[]complex128{complex(math.Ldexp(1, 53), 0), complex(-1, 2)}, math.Ldexp(1, 53) + 2},
		{[]complex128{1, complex(0, -inf)}, inf}, {[]complex128{complex(nan, inf)}, nan}, {[]complex128{1, complex(0, nan)}, nan},
		{[]complex128{complex(great, -great)}, inf},
	} {
		bound, code := impl.BoundOf(c.x)
		wantSameReal(t, "BoundOf", bound, c.want/68719476736)
		want(t, "BoundOf: code", code, impl.OK)
	}
	tiny := complex64(complex(math.SmallestNonzeroFloat32, 0))
	for _, c := range []struct {
		x    []complex64
		want float64
	}{
		{nil, 0}, {[]complex64{-3 - 4i, 5 - 6i}, 18}, {[]complex64{complex(math.MaxFloat32, -math.MaxFloat32)}, 2 * math.MaxFloat32},
		{[]complex64{1 << 24, 1}, 1<<24 + 1}, {[]complex64{1 << 53, 1 + 1i}, 1 << 53}, {[]complex64{1 << 53, -1 + 2i}, 1<<53 + 2},
		{[]complex64{tiny}, math.SmallestNonzeroFloat32},
		{[]complex64{complex64(complex(1, inf))}, inf}, {[]complex64{complex64(complex(nan, inf))}, nan},
	} {
		bound, code := impl.NarrowBoundOf(c.x)
		wantSameReal(t, "NarrowBoundOf", bound, c.want/4096)
		want(t, "NarrowBoundOf: code", code, impl.OK)
	}
}

func TestPromise5BoundsOfLongSignals(t *testing.T) {
	x := make([]complex128, impl.MaxSignal+1)
	for i := range x {
		x[i] = 1
	}
	bound, one := impl.BoundOf(x[1:])
	narrowBound, two := impl.NarrowBoundOf(narrowed(x[1:]))
	wantSameReal(t, "BoundOf", bound, 256.0/68719476736)
	wantSameReal(t, "NarrowBoundOf", narrowBound, 256.0/4096)
	want(t, "codes", [2]int64{one, two}, [2]int64{})
	bound, one = impl.BoundOf(x)
	narrowBound, two = impl.NarrowBoundOf(narrowed(x))
	want(t, "bounds with an error", [2]float64{bound, narrowBound}, [2]float64{})
	want(t, "codes", [2]int64{one, two}, [2]int64{impl.ErrLimit, impl.ErrLimit})
}

func TestPromise5IsNear(t *testing.T) {
	next := math.Nextafter(1, 2)
	for _, c := range []struct {
		a, b, bound float64
		want        bool
	}{
		{1, 1, 0, true}, {0, minus0, 0, true}, {0, minus0, minus0, true}, {1, next, 0, false}, {1, next, next - 1, true},
		{next, 1, next - 1, true}, {1, next, (next - 1) / 2, false}, {1, 3, 2, true}, {3, 1, 2, true}, {1, 3, 1.9, false},
		{1, 1, -1, false}, {1, 1, -least, false}, {1, 1, -inf, false}, {1, -1e300, inf, true}, {1, inf, inf, true}, {inf, -inf, inf, true},
		{inf, inf, inf, false}, {inf, inf, 0, false}, {1, inf, great, false}, {nan, 1, inf, false}, {1, nan, inf, false}, {nan, nan, inf, false},
		{great, -great, inf, true}, {great, -great, great, false},
	} {
		wantNearness(t, []complex128{complex(c.a, 0)}, []complex128{complex(c.b, 0)}, c.bound, c.want)
		wantNearness(t, []complex128{complex(0, c.a)}, []complex128{complex(0, c.b)}, c.bound, c.want)
		wantNearness(t, []complex128{0, 1, complex(2, c.a)}, []complex128{0, 1, complex(2, c.b)}, c.bound, c.want)
		wantNearness(t, []complex128{complex(c.a, 2), 1, 0}, []complex128{complex(c.b, 2), 1, 0}, c.bound, c.want)
	}
	wantNearness(t, nil, []complex128{}, 0, true)
	wantNearness(t, nil, nil, -1, true)
}

func wantNearness(t *testing.T, x, y []complex128, bound float64, want bool) {
	t.Helper()
	is, code := impl.IsNear(x, y, bound)
	if is != want || code != impl.OK {
		t.Errorf("IsNear %v, %v and %v: got %v and code %d", x, y, bound, is, code)
	}
}

func TestPromise5IsNearErrors(t *testing.T) {
	full, over := make([]complex128, impl.MaxSignal), make([]complex128, impl.MaxSignal+1)
	for _, c := range []struct {
		x, y  []complex128
		bound float64
		code  int64
	}{
		{full, full, 0, impl.OK}, {full, full[:1], 0, impl.ErrRange}, {nil, full[:1], 0, impl.ErrRange}, {full[:1], nil, 0, impl.ErrRange},
		{full, full, nan, impl.ErrRange}, {full, full, otherNaN, impl.ErrRange}, {nil, nil, nan, impl.ErrRange}, {full, nil, nan, impl.ErrRange},
		{over, over, 0, impl.ErrLimit}, {over, over, nan, impl.ErrLimit}, {over, full, 0, impl.ErrLimit}, {full, over, 0, impl.ErrLimit},
		{nil, over, nan, impl.ErrLimit}, {over, nil, nan, impl.ErrLimit},
	} {
		is, code := impl.IsNear(c.x, c.y, c.bound)
		want(t, "IsNear", code, c.code)
		want(t, "IsNear with an error", is, c.code == impl.OK)
	}
}
