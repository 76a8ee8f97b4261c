package tests

import (
	"fmt"
	"math"
	"testing"

	"loop.example/g01155/impl"
)

// bankFunctions are the functions of chapter 5 that return a signal, also of
// nothing.
func bankFunctions() map[string]func(x, y []complex128) ([]complex128, int64) {
	return map[string]func(x, y []complex128) ([]complex128, int64){
		"HaarJoin": impl.HaarJoin,
		"LiftJoin": impl.LiftJoin,
		"Decimate": func(x, y []complex128) ([]complex128, int64) {
			return impl.Decimate(x, 2, 1)
		},
		"Expand": func(x, y []complex128) ([]complex128, int64) {
			return impl.Expand(x, 3)
		},
		"Interleave": func(x, y []complex128) ([]complex128, int64) {
			return impl.Interleave([][]complex128{x, y})
		},
		"FilterDecimate": func(x, y []complex128) ([]complex128, int64) {
			return impl.FilterDecimate(x, y, 3, 1)
		},
		"ExpandFilter": func(x, y []complex128) ([]complex128, int64) {
			return impl.ExpandFilter(x, y, 2)
		},
		"JoinTree": func(x, y []complex128) ([]complex128, int64) {
			return impl.JoinTree([][]complex128{x, y}, impl.BkLift)
		},
	}
}

// bandFunctions are those that return anything else.
func bandFunctions() map[string]func(x, y []complex128) (string, int64) {
	return map[string]func(x, y []complex128) (string, int64){
		"BankBound": func(x, y []complex128) (string, int64) {
			bound, code := impl.BankBound(x, 3)
			return impl.BitsText(complex(bound, 0)), code
		},
		"Polyphase": func(x, y []complex128) (string, int64) {
			parts, code := impl.Polyphase(x, 3)
			return fmt.Sprintf("%x", parts), code
		},
		"SplitTree": func(x, y []complex128) (string, int64) {
			bands, code := impl.SplitTree(x, impl.BkHaar, 3)
			return fmt.Sprintf("%x", bands), code
		},
		"FoldSignal": func(x, y []complex128) (string, int64) {
			list, code := impl.FoldSignal(x, 4)
			return fmt.Sprintf("%x", list), code
		},
	}
}

// treeOf has bands that can be joined.
func treeOf(g given) [][]complex128 {
	return [][]complex128{g.x[:2], g.blocks[1][:1], g.blocks[2][:3]}
}

func partCalls() map[string]func(g given) []any {
	return map[string]func(g given) []any{
		"Decimate":                func(g given) []any { return pack(impl.Decimate(g.x, 4, 1)) },
		"Decimate by 1":           func(g given) []any { return pack(impl.Decimate(g.x, 1, 0)) },
		"Decimate to nothing":     func(g given) []any { return pack(impl.Decimate(g.x, 64, 63)) },
		"Expand":                  func(g given) []any { return pack(impl.Expand(g.x, 3)) },
		"Expand by 1":             func(g given) []any { return pack(impl.Expand(g.x, 1)) },
		"Polyphase":               func(g given) []any { return pack(impl.Polyphase(g.x, 4)) },
		"Polyphase by 1":          func(g given) []any { return pack(impl.Polyphase(g.x, 1)) },
		"Polyphase by more":       func(g given) []any { return pack(impl.Polyphase(g.x, 9)) },
		"Interleave":              func(g given) []any { return pack(impl.Interleave(g.blocks)) },
		"Interleave one":          func(g given) []any { return pack(impl.Interleave(g.blocks[:1])) },
		"FilterDecimate":          func(g given) []any { return pack(impl.FilterDecimate(g.x, g.blocks[1], 3, 2)) },
		"FilterDecimate by 1":     func(g given) []any { return pack(impl.FilterDecimate(g.x, g.blocks[1][:1], 1, 0)) },
		"ExpandFilter":            func(g given) []any { return pack(impl.ExpandFilter(g.x, g.blocks[1], 3)) },
		"ExpandFilter by 1":       func(g given) []any { return pack(impl.ExpandFilter(g.x[:1], g.blocks[1], 1)) },
		"ExpandFilter, short":     func(g given) []any { return pack(impl.ExpandFilter(g.x, g.blocks[1][:2], 7)) },
		"ExpandFilter of nothing": func(g given) []any { return pack(impl.ExpandFilter(g.x[:0], g.x, 7)) },
	}
}

func bandCalls() map[string]func(g given) []any {
	return map[string]func(g given) []any{
		"HaarSplit":               func(g given) []any { return pack(impl.HaarSplit(g.x)) },
		"HaarSplit, odd":          func(g given) []any { return pack(impl.HaarSplit(g.x[:5])) },
		"HaarSplit, one":          func(g given) []any { return pack(impl.HaarSplit(g.x[:1])) },
		"HaarJoin":                func(g given) []any { return pack(impl.HaarJoin(g.x, g.blocks[1])) },
		"HaarJoin, odd":           func(g given) []any { return pack(impl.HaarJoin(g.x, g.blocks[1][:5])) },
		"HaarJoin, one":           func(g given) []any { return pack(impl.HaarJoin(g.x[:1], nil)) },
		"HaarJoin, same":          func(g given) []any { return pack(impl.HaarJoin(g.x, g.x)) },
		"NarrowHaarSplit":         func(g given) []any { return pack(impl.NarrowHaarSplit(g.narrow)) },
		"NarrowHaarSplit, odd":    func(g given) []any { return pack(impl.NarrowHaarSplit(g.narrow[:5])) },
		"NarrowHaarSplit, one":    func(g given) []any { return pack(impl.NarrowHaarSplit(g.narrow[:1])) },
		"NarrowHaarJoin":          func(g given) []any { return pack(impl.NarrowHaarJoin(g.narrow, g.narrow[:5])) },
		"NarrowHaarJoin, one":     func(g given) []any { return pack(impl.NarrowHaarJoin(g.narrow[:1], nil)) },
		"LiftSplit":               func(g given) []any { return pack(impl.LiftSplit(g.x)) },
		"LiftSplit, odd":          func(g given) []any { return pack(impl.LiftSplit(g.x[:5])) },
		"LiftSplit, one":          func(g given) []any { return pack(impl.LiftSplit(g.x[:1])) },
		"LiftJoin":                func(g given) []any { return pack(impl.LiftJoin(g.x, g.blocks[1])) },
		"LiftJoin, odd":           func(g given) []any { return pack(impl.LiftJoin(g.x, g.blocks[1][:5])) },
		"LiftJoin, one":           func(g given) []any { return pack(impl.LiftJoin(g.x[:1], nil)) },
		"SplitTree":               func(g given) []any { return pack(impl.SplitTree(g.x, impl.BkHaar, 2)) },
		"SplitTree, many levels":  func(g given) []any { return pack(impl.SplitTree(g.x, impl.BkLift, 6)) },
		"SplitTree by 0 levels":   func(g given) []any { return pack(impl.SplitTree(g.x, impl.BkLift, 0)) },
		"SplitTree of one number": func(g given) []any { return pack(impl.SplitTree(g.x[:1], impl.BkHaar, 3)) },
		"JoinTree":                func(g given) []any { return pack(impl.JoinTree(treeOf(g), impl.BkHaar)) },
		"JoinTree of lifted":      func(g given) []any { return pack(impl.JoinTree(treeOf(g), impl.BkLift)) },
		"JoinTree of one":         func(g given) []any { return pack(impl.JoinTree(g.blocks[:1], impl.BkLift)) },
		"BankBound":               func(g given) []any { return pack(impl.BankBound(g.x, 2)) },
	}
}

func foldCalls() map[string]func(g given) []any {
	return map[string]func(g given) []any{
		"AnalyseBank":        func(g given) []any { return pack(impl.AnalyseBank(g.x, g.w[:3], 2)) },
		"AnalyseBank, ones":  func(g given) []any { return pack(impl.AnalyseBank(g.x, g.w[:1], 1)) },
		"SynthesiseBank":     func(g given) []any { return pack(impl.SynthesiseBank(g.blocks, g.w, 2)) },
		"FoldWindow":         func(g given) []any { return pack(impl.FoldWindow(6)) },
		"FoldBlock":          func(g given) []any { return pack(impl.FoldBlock(g.x[:4])) },
		"UnfoldBlock":        func(g given) []any { return pack(impl.UnfoldBlock(g.x)) },
		"FoldSignal":         func(g given) []any { return pack(impl.FoldSignal(g.x, 4)) },
		"FoldSignal, one":    func(g given) []any { return pack(impl.FoldSignal(g.x, 6)) },
		"UnfoldSignal":       func(g given) []any { return pack(impl.UnfoldSignal(g.blocks, 6, 11)) },
		"UnfoldSignal, none": func(g given) []any { return pack(impl.UnfoldSignal(g.blocks[:1], 6, 0)) },
	}
}

func TestPromise1BanksStayAsTheyAre(t *testing.T) {
	for _, calls := range []map[string]func(g given) []any{partCalls(), bandCalls(), foldCalls()} {
		for name, run := range calls {
			wantStays(t, name, run)
		}
	}
}

func TestPromise1BanksOfAnyIntegers(t *testing.T) {
	x, h := ruledSignal(4), otherSignal(1)
	for _, a := range oddIntegers() {
		isStep, isLevels := a >= 1 && a <= 64, a >= 0 && a <= 6
		expanded, one := impl.Expand(x, a)
		parts, two := impl.Polyphase(x, a)
		filtered, three := impl.ExpandFilter(x, h, a)
		want(t, fmt.Sprint("codes are OK: ", a), [3]bool{one == impl.OK, two == impl.OK, three == impl.OK}, [3]bool{isStep, isStep, isStep})
		want(t, fmt.Sprint("something is told: ", a), [3]bool{len(expanded) != 0, len(parts) != 0, len(filtered) != 0}, [3]bool{isStep, isStep, isStep})
		bound, one := impl.BankBound(x, a)
		want(t, fmt.Sprint("BankBound by ", a), [2]bool{one == impl.OK, bound != 0}, [2]bool{isLevels, isLevels && a != 0})
		isFold := a >= 2 && a <= 128 && a%2 == 0
		w, one := impl.FoldWindow(a)
		list, two := impl.FoldSignal(x, a)
		want(t, fmt.Sprint("folds by ", a), [4]bool{one == impl.OK, two == impl.OK, len(w) != 0, len(list) != 0}, [4]bool{isFold, isFold, isFold, isFold})
		joined, one := impl.JoinTree([][]complex128{x, h, x}, a)
		want(t, fmt.Sprint("JoinTree by ", a), [2]int64{one, int64(len(joined))}, [2]int64{impl.ErrRange, 0})
		for _, b := range oddIntegers() {
			isPhase := isStep && b >= 0 && b < a
			some, one := impl.Decimate(x, a, b)
			more, two := impl.FilterDecimate(x, h, a, b)
			want(t, fmt.Sprint("phases ", a, b), [4]bool{one == impl.OK, two == impl.OK, len(some) != 0, len(more) != 0}, [4]bool{isPhase, isPhase, isPhase && b < 4, isPhase && b < 4})
			isTree := (a == 1 || a == 2) && b >= 0 && b <= 6
			bands, one := impl.SplitTree(x, a, b)
			want(t, fmt.Sprint("SplitTree by ", a, b), [2]bool{one == impl.OK, len(bands) != 0}, [2]bool{isTree, isTree})
			isLength := a == 4 && b >= 0 && b <= 4
			again, one := impl.UnfoldSignal([][]complex128{x, x}, a, b)
			want(t, fmt.Sprint("UnfoldSignal by ", a, b), [2]bool{one == impl.OK, len(again) != 0}, [2]bool{isLength, isLength && b != 0})
		}
	}
}

func TestPromise1BanksOfNothing(t *testing.T) {
	for _, x := range [][]complex128{nil, {}} {
		for name, split := range map[string]func(x []complex128) ([]complex128, []complex128, int64){"HaarSplit": impl.HaarSplit, "LiftSplit": impl.LiftSplit} {
			low, high, code := split(x)
			wantSignal(t, name+" of nothing, low", low, code)
			wantSignal(t, name+" of nothing, high", high, code)
		}
		bound, code := impl.BankBound(x, 6)
		wantSameReal(t, "BankBound of nothing", bound, 0)
		want(t, "BankBound of nothing: code", code, impl.OK)
		frames, code := impl.AnalyseBank(x, []float64{1, 2}, 2)
		wantBlocks(t, "AnalyseBank of nothing", frames, code)
		list, code := impl.FoldSignal(x, 4)
		wantBlocks(t, "FoldSignal of nothing", list, code)
		got, code := impl.FoldBlock(x)
		wantCode(t, "FoldBlock of nothing", got, code, impl.ErrRange)
		got, code = impl.UnfoldBlock(x)
		wantCode(t, "UnfoldBlock of nothing", got, code, impl.ErrRange)
	}
	for _, list := range [][][]complex128{nil, {}} {
		got, code := impl.Interleave(list)
		wantCode(t, "Interleave nothing", got, code, impl.ErrRange)
		got, code = impl.JoinTree(list, impl.BkHaar)
		wantCode(t, "JoinTree of nothing", got, code, impl.ErrRange)
		got, code = impl.SynthesiseBank(list, []float64{1, 2}, 2)
		wantSignal(t, "SynthesiseBank of nothing", got, code)
		got, code = impl.UnfoldSignal(list, 2, 0)
		wantSignal(t, "UnfoldSignal of nothing", got, code)
	}
	for _, x := range [][]complex64{nil, {}} {
		low, high, one := impl.NarrowHaarSplit(x)
		joined, two := impl.NarrowHaarJoin(x, nil)
		want(t, "narrow bands of nothing", [3]int{len(low), len(high), len(joined)}, [3]int{})
		want(t, "narrow bands of nothing: codes", [2]int64{one, two}, [2]int64{})
	}
}

func TestPromise1VeryLongBanks(t *testing.T) {
	x, narrow, w := make([]complex128, 500000), make([]complex64, 500000), make([]float64, 500000)
	empty, long := make([][]complex128, 1000000), [][]complex128{x, x}
	for name, results := range map[string][]any{
		"Decimate":                 pack(impl.Decimate(x, 0, math.MinInt64)),
		"Expand":                   pack(impl.Expand(x, math.MaxInt64)),
		"Polyphase":                pack(impl.Polyphase(x, math.MaxInt64)),
		"Interleave":               pack(impl.Interleave(long)),
		"Interleave, many":         pack(impl.Interleave(empty)),
		"FilterDecimate":           pack(impl.FilterDecimate(x, nil, 0, 0)),
		"FilterDecimate with long": pack(impl.FilterDecimate(nil, x, 0, 0)),
		"ExpandFilter":             pack(impl.ExpandFilter(x, nil, math.MaxInt64)),
		"ExpandFilter with long":   pack(impl.ExpandFilter(nil, x, math.MaxInt64)),
		"HaarSplit":                pack(impl.HaarSplit(x)),
		"HaarJoin":                 pack(impl.HaarJoin(x, nil)),
		"HaarJoin, high":           pack(impl.HaarJoin(nil, x)),
		"NarrowHaarSplit":          pack(impl.NarrowHaarSplit(narrow)),
		"NarrowHaarJoin":           pack(impl.NarrowHaarJoin(nil, narrow)),
		"LiftSplit":                pack(impl.LiftSplit(x)),
		"LiftJoin":                 pack(impl.LiftJoin(nil, x)),
		"SplitTree":                pack(impl.SplitTree(x, 7, -1)),
		"JoinTree":                 pack(impl.JoinTree(long, 7)),
		"JoinTree, many":           pack(impl.JoinTree(empty, 7)),
		"BankBound":                pack(impl.BankBound(x, -1)),
		"AnalyseBank":              pack(impl.AnalyseBank(x, nil, 0)),
		"AnalyseBank by long":      pack(impl.AnalyseBank(nil, w, 0)),
		"SynthesiseBank":           pack(impl.SynthesiseBank(long, nil, 0)),
		"SynthesiseBank, many":     pack(impl.SynthesiseBank(empty, nil, 0)),
		"SynthesiseBank by long":   pack(impl.SynthesiseBank(nil, w, 0)),
		"FoldBlock":                pack(impl.FoldBlock(x)),
		"UnfoldBlock":              pack(impl.UnfoldBlock(x)),
		"FoldSignal":               pack(impl.FoldSignal(x, 0)),
		"UnfoldSignal":             pack(impl.UnfoldSignal(long, 0, -1)),
		"UnfoldSignal, many":       pack(impl.UnfoldSignal(empty, 0, -1)),
	} {
		want(t, name, lastCode(results), impl.ErrLimit)
		for _, each := range piecesOf(results) {
			want(t, name+": told", each.text(), "[]")
		}
	}
}

func TestPromise1ConstantsOfBanks(t *testing.T) {
	want(t, "kinds and levels", [3]int{impl.BkHaar, impl.BkLift, impl.MaxLevels}, [3]int{1, 2, 6})
}
