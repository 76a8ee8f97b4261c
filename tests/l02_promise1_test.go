package tests

import (
	"math"
	"slices"
	"strings"
	"testing"

	"loop.example/g01155/impl"
)

// transformFunctions are the functions of chapter 2 that return a signal.
func transformFunctions() map[string]func(x, y []complex128) ([]complex128, int64) {
	alone := func(run func(x []complex128) ([]complex128, int64)) func(x, y []complex128) ([]complex128, int64) {
		return func(x, y []complex128) ([]complex128, int64) { return run(x) }
	}
	return map[string]func(x, y []complex128) ([]complex128, int64){
		"PlainTransform": alone(impl.PlainTransform),
		"PlainBack":      alone(impl.PlainBack),
		"TransformOf":    alone(impl.TransformOf),
		"BackOf":         alone(impl.BackOf),
		"ChirpTransform": alone(impl.ChirpTransform),
		"MirrorSignal":   alone(impl.MirrorSignal),
		"RotateSignal": func(x, y []complex128) ([]complex128, int64) {
			return impl.RotateSignal(x, int64(len(x)/3))
		},
		"RotateSignal by 0": func(x, y []complex128) ([]complex128, int64) {
			return impl.RotateSignal(x, 0)
		},
		"ModulateSignal": func(x, y []complex128) ([]complex128, int64) {
			return impl.ModulateSignal(x, int64(len(x)/3))
		},
	}
}

// boundFunctions are those of chapter 2 that return a number or an answer.
func boundFunctions() map[string]func(x, y []complex128) (string, int64) {
	return map[string]func(x, y []complex128) (string, int64){
		"BoundOf": func(x, y []complex128) (string, int64) {
			bound, code := impl.BoundOf(x)
			return impl.BitsText(complex(bound, 0)), code
		},
		"IsNear": func(x, y []complex128) (string, int64) {
			is, code := impl.IsNear(x, y, inf)
			return map[bool]string{true: "yes", false: "no"}[is], code
		},
	}
}

func narrowText(x []complex64) string {
	var text strings.Builder
	narrowLines(func(line string) bool {
		text.WriteString(line + "\n")
		return true
	}, x)
	return text.String()
}

func TestPromise1NarrowTransformsStayAsTheyAre(t *testing.T) {
	for _, wide := range [][]complex128{mixedSignal(), mixedSignal()[:1], mixedSignal()[:5], drawnNumbers(8)} {
		x := append(narrowed(wide), 7, 8i)[:len(wide)]
		before := narrowBitsOf(x[:cap(x)])
		for name, run := range map[string]func([]complex64) ([]complex64, int64){"NarrowTransform": impl.NarrowTransform, "NarrowBack": impl.NarrowBack} {
			one, first := run(x)
			two, second := run(x)
			want(t, name+": code", [2]int64{first, second}, [2]int64{})
			want(t, name, narrowText(one), narrowText(two))
			clear(one[:cap(one)])
			three, _ := run(x)
			want(t, name+", result overwritten", narrowText(three), narrowText(two))
			if !slices.Equal(narrowBitsOf(x[:cap(x)]), before) {
				t.Errorf("%s: the argument was modified", name)
			}
		}
		one, _ := impl.NarrowBoundOf(x)
		two, _ := impl.NarrowBoundOf(x)
		wantSameReal(t, "NarrowBoundOf", one, two)
		if !slices.Equal(narrowBitsOf(x[:cap(x)]), before) {
			t.Error("NarrowBoundOf: the argument was modified")
		}
	}
}

func TestPromise1RealSignalsStayAsTheyAre(t *testing.T) {
	x, y := withRoom(mixedSignal()), withRoom(drawnNumbers(6))
	both := append(x[:len(x):len(x)], y...)
	reals, others := partsOf(both)
	beforeReals, beforeOthers := slices.Clone(reals), slices.Clone(others)
	first, second, code := impl.RealPair(reals[:6], others[:6])
	alone, aloneCode := impl.RealTransform(reals[:6])
	want(t, "codes", [2]int64{code, aloneCode}, [2]int64{})
	clear(first[:cap(first)])
	again, other, _ := impl.RealPair(reals[:6], others[:6])
	wantSignal(t, "RealPair, the first result overwritten", second, code, other...)
	clear(alone[:cap(alone)])
	clear(second[:cap(second)])
	third, fourth, code := impl.RealPair(reals[:6], others[:6])
	wantSignal(t, "RealPair, first", third, code, again...)
	wantSignal(t, "RealPair, second", fourth, code, other...)
	if !slices.EqualFunc(reals, beforeReals, sameReal) || !slices.EqualFunc(others, beforeOthers, sameReal) {
		t.Error("RealPair or RealTransform: an argument was modified")
	}
}

func TestPromise1TurnsAndFactorsAreNew(t *testing.T) {
	one, _ := impl.TurnsOf(12)
	clear(one)
	two, code := impl.TurnsOf(12)
	three, _ := impl.TurnsOf(12)
	wantSignal(t, "TurnsOf", two, code, three...)
	wantSame(t, "TurnsOf, result overwritten", two[0], 1)
	factors, _ := impl.FactorsOf(60)
	clear(factors)
	again, _ := impl.FactorsOf(60)
	if !slices.Equal(again, []int64{2, 2, 3, 5}) {
		t.Errorf("FactorsOf: got %v", again)
	}
}

func TestPromise1TurnsOfAnyArguments(t *testing.T) {
	any := []int64{math.MinInt64, math.MinInt64 + 1, -1 << 32, -1025, -1024, -1, 0, 1, 2, 3, 7, 8, 1023, 1024, 1025, 1 << 32, 1<<32 + 8, math.MaxInt64}
	for _, n := range any {
		isCount := n >= 1 && n <= 1024
		turns, code := impl.TurnsOf(n)
		want(t, "TurnsOf: code is OK", code == impl.OK, isCount)
		want(t, "TurnsOf: something is told", len(turns) != 0, isCount)
		factors, code := impl.FactorsOf(n)
		want(t, "FactorsOf: code is OK", code == impl.OK, isCount)
		want(t, "FactorsOf: something is told", len(factors) != 0, isCount && n > 1)
		for _, k := range any {
			isPlace := isCount && k >= 0 && k < n
			turn, code := impl.TurnOf(n, k)
			narrow, narrowCode := impl.NarrowTurnOf(n, k)
			want(t, "TurnOf: code is OK", code == impl.OK, isPlace)
			want(t, "TurnOf: something is told", turn != 0, isPlace)
			want(t, "NarrowTurnOf: code", narrowCode, code)
			want(t, "NarrowTurnOf: something is told", narrow != 0, isPlace)
		}
	}
}

func TestPromise1NoRealAndNarrowNumbers(t *testing.T) {
	for _, x := range [][]complex64{nil, {}} {
		forth, one := impl.NarrowTransform(x)
		back, two := impl.NarrowBack(x)
		bound, three := impl.NarrowBoundOf(x)
		want(t, "narrow signals of nothing", [2]int{len(forth), len(back)}, [2]int{})
		wantSameReal(t, "NarrowBoundOf nothing", bound, 0)
		want(t, "codes", [3]int64{one, two, three}, [3]int64{})
	}
	for _, x := range [][]float64{nil, {}} {
		for _, y := range [][]float64{nil, {}} {
			first, second, one := impl.RealPair(x, y)
			alone, two := impl.RealTransform(y)
			want(t, "real signals of nothing", [3]int{len(first), len(second), len(alone)}, [3]int{})
			want(t, "codes", [2]int64{one, two}, [2]int64{})
		}
	}
	bound, code := impl.BoundOf(nil)
	wantSameReal(t, "BoundOf nothing", bound, 0)
	want(t, "code", code, impl.OK)
}

func TestPromise1VeryLongTransforms(t *testing.T) {
	x, reals := make([]complex64, 500000), make([]float64, 500000)
	forth, one := impl.NarrowTransform(x)
	back, two := impl.NarrowBack(x)
	_, three := impl.NarrowBoundOf(x)
	first, second, four := impl.RealPair(reals, reals)
	alone, five := impl.RealTransform(reals)
	want(t, "very long signals", [5]int{len(forth), len(back), len(first), len(second), len(alone)}, [5]int{})
	want(t, "codes", [5]int64{one, two, three, four, five}, [5]int64{impl.ErrLimit, impl.ErrLimit, impl.ErrLimit, impl.ErrLimit, impl.ErrLimit})
}

func TestPromise1ConstantsOfTransforms(t *testing.T) {
	want(t, "MaxTurn", impl.MaxTurn, 1024)
	want(t, "MaxChirp", impl.MaxChirp, 64)
}
