package tests

import (
	"fmt"
	"testing"

	"loop.example/g01155/impl"
)

// convolutionFunctions are the functions of chapter 4 that return a signal, also
// of nothing.
func convolutionFunctions() map[string]func(x, y []complex128) ([]complex128, int64) {
	return map[string]func(x, y []complex128) ([]complex128, int64){
		"Convolve":       impl.Convolve,
		"CircleConvolve": impl.CircleConvolve,
		"CircleFast":     impl.CircleFast,
		"FastConvolve":   impl.FastConvolve,
		"Correlate":      impl.Correlate,
		"FastCorrelate":  impl.FastCorrelate,
		"RecurSignal":    impl.RecurSignal,
		"SaveConvolve": func(x, y []complex128) ([]complex128, int64) {
			return impl.SaveConvolve(x, y, 8)
		},
		"DivideSpectra": func(x, y []complex128) ([]complex128, int64) {
			return impl.DivideSpectra(x, y, 0.1)
		},
	}
}

// lagFunctions are those that return a number or an answer.
func lagFunctions() map[string]func(x, y []complex128) (string, int64) {
	return map[string]func(x, y []complex128) (string, int64){
		"ConvolutionBound": func(x, y []complex128) (string, int64) {
			bound, code := impl.ConvolutionBound(x, y)
			return impl.BitsText(complex(bound, 0)), code
		},
		"BestLag": func(x, y []complex128) (string, int64) {
			lag, size, code := impl.BestLag(x, y)
			return fmt.Sprint(lag, " ", impl.BitsText(complex(size, 0))), code
		},
		"ValidFilter": func(x, y []complex128) (string, int64) {
			return fmt.Sprint(impl.ValidFilter(impl.Filter{Taps: x, Past: y[1:]})), impl.OK
		},
		"SameFilter": func(x, y []complex128) (string, int64) {
			return fmt.Sprint(impl.SameFilter(impl.Filter{Taps: x, Past: y}, impl.Filter{Taps: x, Past: x})), impl.OK
		},
	}
}

func convolutionCalls() map[string]func(g given) []any {
	return map[string]func(g given) []any{
		"Convolve":                func(g given) []any { return pack(impl.Convolve(g.x, g.blocks[1])) },
		"Convolve, one number":    func(g given) []any { return pack(impl.Convolve(g.x, g.blocks[1][:1])) },
		"NarrowConvolve":          func(g given) []any { return pack(impl.NarrowConvolve(g.narrow, g.narrow)) },
		"CircleConvolve":          func(g given) []any { return pack(impl.CircleConvolve(g.x[:5], g.blocks[1][:5])) },
		"CircleFast":              func(g given) []any { return pack(impl.CircleFast(g.x, g.blocks[1])) },
		"CircleFast, one number":  func(g given) []any { return pack(impl.CircleFast(g.x[:1], g.blocks[1][:1])) },
		"FastConvolve":            func(g given) []any { return pack(impl.FastConvolve(g.x, g.blocks[1])) },
		"FastConvolve, full":      func(g given) []any { return pack(impl.FastConvolve(g.x[:4], g.blocks[1][:1])) },
		"SaveConvolve":            func(g given) []any { return pack(impl.SaveConvolve(g.x, g.blocks[1][:3], 4)) },
		"SaveConvolve, one tap":   func(g given) []any { return pack(impl.SaveConvolve(g.x, g.blocks[1][:1], 1)) },
		"ConvolutionBound":        func(g given) []any { return pack(impl.ConvolutionBound(g.x, g.blocks[1])) },
		"Correlate":               func(g given) []any { return pack(impl.Correlate(g.x, g.blocks[1])) },
		"FastCorrelate":           func(g given) []any { return pack(impl.FastCorrelate(g.x, g.blocks[1])) },
		"BestLag":                 func(g given) []any { return pack(impl.BestLag(g.x, g.blocks[1])) },
		"DivideSpectra":           func(g given) []any { return pack(impl.DivideSpectra(g.x, g.blocks[1], 0.1)) },
		"Deconvolve":              func(g given) []any { return pack(impl.Deconvolve(g.x, g.blocks[1][:3], 0.1, 5)) },
		"Deconvolve, one number":  func(g given) []any { return pack(impl.Deconvolve(g.x[:1], g.blocks[1][:1], 0.1, 1)) },
		"RecurSignal":             func(g given) []any { return pack(impl.RecurSignal(g.x, g.blocks[1])) },
		"RecurSignal, none in a":  func(g given) []any { return pack(impl.RecurSignal(g.x, nil)) },
		"ValidFilter":             func(g given) []any { return pack(impl.ValidFilter(g.filter)) },
		"SameFilter":              func(g given) []any { return pack(impl.SameFilter(g.filter, g.filter)) },
		"NewFilter":               func(g given) []any { return pack(impl.NewFilter(g.x)) },
		"PushFilter":              func(g given) []any { return pack(impl.PushFilter(g.filter, g.blocks[1][:3])) },
		"PushFilter, long":        func(g given) []any { return pack(impl.PushFilter(g.filter, g.x)) },
		"PushFilter, nothing":     func(g given) []any { return pack(impl.PushFilter(g.filter, nil)) },
		"PushFilter, first":       func(g given) []any { return pack(impl.PushFilter(impl.Filter{Taps: g.x}, g.x)) },
		"PushFilter, one tap":     func(g given) []any { return pack(impl.PushFilter(impl.Filter{Taps: g.x[:1], Past: g.x[:0]}, g.x)) },
		"FinishFilter":            func(g given) []any { return pack(impl.FinishFilter(g.filter)) },
		"FinishFilter, nothing":   func(g given) []any { return pack(impl.FinishFilter(impl.Filter{Taps: g.x, Past: g.x[:0]})) },
		"PushFilter, the same in": func(g given) []any { return pack(impl.PushFilter(impl.Filter{Taps: g.x, Past: g.x[:2]}, g.x)) },
	}
}

func TestPromise1ConvolutionsAndFiltersStayAsTheyAre(t *testing.T) {
	for name, run := range convolutionCalls() {
		wantStays(t, name, run)
	}
}

// TestPromise1FiltersMayBePushedTwice finds that a filter stays what it was,
// whatever is pushed to it and to what comes of it.
func TestPromise1FiltersMayBePushedTwice(t *testing.T) {
	f, _ := impl.NewFilter(otherSignal(4))
	f, _, _ = impl.PushFilter(f, ruledSignal(2))
	one, told, _ := impl.PushFilter(f, drawnNumbers(5))
	onward, _, _ := impl.PushFilter(one, ruledSignal(3))
	two, again, code := impl.PushFilter(f, drawnNumbers(5))
	wantSignal(t, "told again", again, code, told...)
	want(t, "the same filter", impl.SameFilter(one, two), true)
	clear(onward.Past)
	clear(onward.Taps)
	clear(two.Past)
	clear(two.Taps)
	rest, code := impl.FinishFilter(one)
	whole := toldConvolution(append(ruledSignal(2), drawnNumbers(5)...), otherSignal(4))
	wantSignal(t, "FinishFilter", rest, code, whole[7:]...)
}

func TestPromise1ConvolutionsOfAnyIntegers(t *testing.T) {
	x, h := ruledSignal(5), otherSignal(3)
	for _, a := range oddIntegers() {
		saved, one := impl.SaveConvolve(x, h, a)
		isSize := a >= 3 && a <= 256
		want(t, fmt.Sprint("SaveConvolve by ", a), [2]bool{one == impl.OK, len(saved) != 0}, [2]bool{isSize, isSize})
		back, two := impl.Deconvolve(x, h, 1, a)
		isCount := a >= 0 && a <= 8
		want(t, fmt.Sprintf("%d of Deconvolve", a), [2]bool{two == impl.OK, len(back) != 0}, [2]bool{isCount, isCount && a != 0})
	}
	for _, floor := range anyReals() {
		_, one := impl.DivideSpectra(x, x, floor)
		_, two := impl.Deconvolve(x, h, floor, 1)
		want(t, fmt.Sprint("floor ", floor), [2]bool{one == impl.OK, two == impl.OK}, [2]bool{floor > 0, floor > 0})
	}
}

func TestPromise1ConvolutionsOfNothing(t *testing.T) {
	for _, x := range [][]complex128{nil, {}} {
		for _, y := range [][]complex128{nil, {}} {
			bound, one := impl.ConvolutionBound(x, y)
			wantSameReal(t, "ConvolutionBound of nothing", bound, 0)
			lag, size, two := impl.BestLag(x, y)
			want(t, "BestLag of nothing", lag, 0)
			wantSameReal(t, "BestLag of nothing: size", size, 0)
			list, three := impl.Deconvolve(x, y, 1, 0)
			wantCode(t, "Deconvolve of nothing", list, three, impl.ErrRange)
			want(t, "codes", [2]int64{one, two}, [2]int64{impl.OK, impl.ErrNotFound})
			next, told, code := impl.PushFilter(impl.Filter{Taps: []complex128{1, 2}, Past: x}, y)
			wantSignal(t, "PushFilter of nothing", told, code)
			wantSignal(t, "PushFilter of nothing: Past", next.Past, code)
			rest, code := impl.FinishFilter(next)
			wantSignal(t, "FinishFilter of nothing", rest, code)
			want(t, "SameFilter of nothing", impl.SameFilter(impl.Filter{Taps: x}, impl.Filter{Past: y}), true)
			want(t, "ValidFilter of nothing", impl.ValidFilter(impl.Filter{Taps: x, Past: y}), false)
		}
	}
	for _, x := range [][]complex64{nil, {}} {
		got, code := impl.NarrowConvolve(x, nil)
		wantCode(t, "NarrowConvolve of nothing", got, code, impl.OK)
	}
}

func TestPromise1VeryLongConvolutions(t *testing.T) {
	x, narrow := make([]complex128, 500000), make([]complex64, 500000)
	long, short := impl.Filter{Taps: x, Past: x}, impl.Filter{Taps: x[:3], Past: x[:2]}
	for name, results := range map[string][]any{
		"NarrowConvolve":       pack(impl.NarrowConvolve(narrow, narrow)),
		"Convolve and nothing": pack(impl.Convolve(x, nil)),
		"Correlate, nothing":   pack(impl.Correlate(nil, x)),
		"SaveConvolve":         pack(impl.SaveConvolve(x, nil, 5)),
		"ConvolutionBound":     pack(impl.ConvolutionBound(x, x)),
		"BestLag":              pack(impl.BestLag(x, x)),
		"DivideSpectra":        pack(impl.DivideSpectra(x, x, nan)),
		"Deconvolve":           pack(impl.Deconvolve(x, x, -1, -1)),
		"NewFilter":            pack(impl.NewFilter(x)),
		"PushFilter":           pack(impl.PushFilter(short, x)),
		"PushFilter to long":   pack(impl.PushFilter(long, nil)),
		"FinishFilter":         pack(impl.FinishFilter(long)),
	} {
		want(t, name, lastCode(results), impl.ErrLimit)
		for _, each := range piecesOf(results) {
			want(t, name+": told", each.text(), "[]")
		}
	}
	want(t, "ValidFilter", impl.ValidFilter(long), false)
	want(t, "SameFilter", impl.SameFilter(long, long), true)
}
