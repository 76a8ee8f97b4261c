package tests

import (
	"fmt"
	"math"
	"slices"
	"testing"

	"loop.example/g01155/impl"
)

// spectrumFunctions are the functions of chapter 6 that are told of signals.
func spectrumFunctions() map[string]func(x, y []complex128) (string, int64) {
	w := []float64{0.5, -1, 3}
	return map[string]func(x, y []complex128) (string, int64){
		"PowersOf": func(x, y []complex128) (string, int64) {
			powers, code := impl.PowersOf(x)
			return realBits(powers), code
		},
		"AverageSpectrum": func(x, y []complex128) (string, int64) {
			average, code := impl.AverageSpectrum(x, w, 2)
			return realBits(average), code
		},
		"CrossSpectrum": func(x, y []complex128) (string, int64) {
			cross, code := impl.CrossSpectrum(x, y, w, 2)
			return fmt.Sprintf("%x", cross), code
		},
		"CoherenceOf": func(x, y []complex128) (string, int64) {
			coherence, code := impl.CoherenceOf(x, y, w, 2)
			return realBits(coherence), code
		},
		"PhasesOf": func(x, y []complex128) (string, int64) {
			phases, code := impl.PhasesOf(x)
			return realBits(phases), code
		},
		"BinOf": func(x, y []complex128) (string, int64) {
			bin, code := impl.BinOf(x, 2)
			return impl.BitsText(bin), code
		},
	}
}

func powerCalls() map[string]func(g given) []any {
	return map[string]func(g given) []any{
		"PowersOf":              func(g given) []any { return pack(impl.PowersOf(g.x)) },
		"AverageSpectrum":       func(g given) []any { return pack(impl.AverageSpectrum(g.x, g.w, 2)) },
		"AverageSpectrum, ones": func(g given) []any { return pack(impl.AverageSpectrum(g.x, g.w[:1], 1)) },
		"AverageSpectrum, one":  func(g given) []any { return pack(impl.AverageSpectrum(g.x[:1], g.w, 6)) },
		"CrossSpectrum":         func(g given) []any { return pack(impl.CrossSpectrum(g.x, g.blocks[1], g.w[:3], 1)) },
		"CrossSpectrum of one":  func(g given) []any { return pack(impl.CrossSpectrum(g.x, g.x, g.w[:1], 1)) },
		"CoherenceOf":           func(g given) []any { return pack(impl.CoherenceOf(g.blocks[1], g.x, g.w[:2], 1)) },
		"SmoothPowers":          func(g given) []any { return pack(impl.SmoothPowers(g.w, 2)) },
		"SmoothPowers by 0":     func(g given) []any { return pack(impl.SmoothPowers(g.w, 0)) },
		"SmoothPowers of one":   func(g given) []any { return pack(impl.SmoothPowers(g.w[:1], 0)) },
		"PeaksOf":               func(g given) []any { return pack(impl.PeaksOf(g.w, 0.5)) },
		"PeaksOf three":         func(g given) []any { return pack(impl.PeaksOf(g.w[:3], math.Inf(-1))) },
		"PeakBetween":           func(g given) []any { return pack(impl.PeakBetween(g.w, 0)) },
		"CentroidOf":            func(g given) []any { return pack(impl.CentroidOf(g.w[:2])) },
		"MedianOf":              func(g given) []any { return pack(impl.MedianOf(g.w[:2])) },
		"MedianOf unsorted":     func(g given) []any { return pack(impl.MedianOf([]float64{g.w[5], g.w[0], g.w[3], g.w[1]})) },
		"PowersApart":           func(g given) []any { return pack(impl.PowersApart(g.w, g.w)) },
	}
}

func phaseCalls() map[string]func(g given) []any {
	return map[string]func(g given) []any{
		"PhaseOf":             func(g given) []any { return pack(impl.PhaseOf(g.x[3])) },
		"NarrowPhaseOf":       func(g given) []any { return pack(impl.NarrowPhaseOf(g.narrow[3])) },
		"PhasesOf":            func(g given) []any { return pack(impl.PhasesOf(g.x)) },
		"WrapPhase":           func(g given) []any { return pack(impl.WrapPhase(g.w[5])) },
		"UnwrapPhases":        func(g given) []any { return pack(impl.UnwrapPhases(g.w)) },
		"UnwrapPhases of one": func(g given) []any { return pack(impl.UnwrapPhases(g.w[:1])) },
		"DelaysOf":            func(g given) []any { return pack(impl.DelaysOf(g.w)) },
		"DelaysOf two":        func(g given) []any { return pack(impl.DelaysOf(g.w[:2])) },
		"BinOf":               func(g given) []any { return pack(impl.BinOf(g.x, 4)) },
		"BinOf one number":    func(g given) []any { return pack(impl.BinOf(g.x[:1], 0)) },
		"FromPolar":           func(g given) []any { return pack(impl.FromPolar(g.w[5], g.w[0])) },
	}
}

func TestPromise1SpectraStayAsTheyAre(t *testing.T) {
	for _, calls := range []map[string]func(g given) []any{powerCalls(), phaseCalls()} {
		for name, run := range calls {
			wantStays(t, name, run)
		}
	}
}

// TestPromise1SortedPowersStay has a list that a sort would change.
func TestPromise1SortedPowersStay(t *testing.T) {
	p := append([]float64{5, minus0, 4, 0, -1, inf}, 7, -3)[:6]
	before := realBits(p[:8])
	for range 2 {
		median, code := impl.MedianOf(p)
		wantReal(t, "MedianOf", median, code, 0)
		want(t, "MedianOf: argument", realBits(p[:8]), before)
	}
}

func TestPromise1PhasesOfAnyNumbers(t *testing.T) {
	for _, a := range anyReals() {
		wantSameReal(t, "WrapPhase", impl.WrapPhase(a), impl.WrapPhase(a))
		for _, b := range anyReals() {
			x := complex(a, b)
			narrow := complex64(x)
			wantSameReal(t, "PhaseOf", impl.PhaseOf(x), impl.PhaseOf(x))
			wantSameReal(t, "NarrowPhaseOf", float64(impl.NarrowPhaseOf(narrow)), float64(impl.NarrowPhaseOf(narrow)))
			wantSame(t, "FromPolar", impl.FromPolar(a, b), impl.FromPolar(a, b))
			places, code := impl.PeaksOf([]float64{a, b, a, b, 1}, b)
			want(t, "PeaksOf", [2]bool{code == impl.OK, len(places) <= 2}, [2]bool{true, true})
			_, _, code = impl.PeakBetween([]float64{a, b, 1}, 1)
			want(t, "PeakBetween", code == impl.OK || code == impl.ErrState, true)
		}
	}
}

func TestPromise1SpectraOfAnyIntegers(t *testing.T) {
	x, p := ruledSignal(4), []float64{1, 4, 1, 4}
	for _, a := range oddIntegers() {
		smooth, one := impl.SmoothPowers(p, a)
		_, value, two := impl.PeakBetween(p, a)
		bin, three := impl.BinOf(x, a)
		isPlace := a >= 0 && a <= 3
		want(t, fmt.Sprint("codes are OK: ", a), [3]bool{one == impl.OK, two == impl.OK, three == impl.OK}, [3]bool{isPlace, isPlace, isPlace})
		want(t, fmt.Sprint("something is told: ", a), [3]bool{len(smooth) != 0, value != 0, bin != 0}, [3]bool{isPlace, isPlace, isPlace})
		isHop := a >= 1 && a <= 4
		average, one := impl.AverageSpectrum(x, p, a)
		cross, two := impl.CrossSpectrum(x, x, p, a)
		coherence, three := impl.CoherenceOf(x, x, p, a)
		want(t, fmt.Sprint("codes of averages are OK: ", a), [3]bool{one == impl.OK, two == impl.OK, three == impl.OK}, [3]bool{isHop, isHop, isHop})
		want(t, fmt.Sprint("averages are told: ", a), [3]bool{len(average) != 0, len(cross) != 0, len(coherence) != 0}, [3]bool{isHop, isHop, isHop})
	}
}

func TestPromise1SpectraOfNothing(t *testing.T) {
	for _, x := range [][]complex128{nil, {}} {
		powers, code := impl.PowersOf(x)
		wantReals(t, "PowersOf nothing", powers, code)
		phases, code := impl.PhasesOf(x)
		wantReals(t, "PhasesOf nothing", phases, code)
		bin, code := impl.BinOf(x, 0)
		wantSame(t, "BinOf nothing", bin, 0)
		want(t, "BinOf nothing: code", code, impl.ErrRange)
		for _, y := range [][]complex128{nil, {}} {
			for _, w := range [][]float64{{1, 2}, {nan}} {
				want(t, "averages of nothing", averageCodes(t, "averages of nothing", x, y, w, 1), [3]int64{impl.ErrState, impl.ErrState, impl.ErrState})
			}
			for _, w := range [][]float64{nil, {}} {
				want(t, "averages by no window", averageCodes(t, "averages by no window", x, y, w, 1), [3]int64{impl.ErrRange, impl.ErrRange, impl.ErrRange})
			}
		}
	}
	for _, p := range [][]float64{nil, {}} {
		smooth, code := impl.SmoothPowers(p, 0)
		wantReals(t, "SmoothPowers of nothing", smooth, code)
		places, code := impl.PeaksOf(p, 0)
		wantCode(t, "PeaksOf nothing", places, code, impl.ErrRange)
		offset, value, code := impl.PeakBetween(p, 0)
		wantSame(t, "PeakBetween of nothing", complex(offset, value), 0)
		want(t, "PeakBetween of nothing: code", code, impl.ErrRange)
		centroid, code := impl.CentroidOf(p)
		wantNoReal(t, "CentroidOf nothing", centroid, code, impl.ErrState)
		median, code := impl.MedianOf(p)
		wantNoReal(t, "MedianOf nothing", median, code, impl.ErrState)
		phases, code := impl.UnwrapPhases(p)
		wantReals(t, "UnwrapPhases of nothing", phases, code)
		delays, code := impl.DelaysOf(p)
		wantReals(t, "DelaysOf nothing", delays, code)
		for _, q := range [][]float64{nil, {}} {
			apart, code := impl.PowersApart(p, q)
			wantReal(t, "PowersApart nothing", apart, code, 0)
		}
	}
}

func TestPromise1VeryLongSpectra(t *testing.T) {
	x, p := make([]complex128, 500000), slices.Repeat([]float64{nan}, 500000)
	short := []float64{1}
	for name, results := range map[string][]any{
		"PowersOf":                   pack(impl.PowersOf(x)),
		"AverageSpectrum":            pack(impl.AverageSpectrum(x, short, 0)),
		"AverageSpectrum by long":    pack(impl.AverageSpectrum(nil, p, 0)),
		"CrossSpectrum":              pack(impl.CrossSpectrum(x, nil, short, 0)),
		"CrossSpectrum with long":    pack(impl.CrossSpectrum(nil, x, short, 0)),
		"CrossSpectrum by long":      pack(impl.CrossSpectrum(nil, x[:1], p, 0)),
		"CoherenceOf":                pack(impl.CoherenceOf(x, nil, short, 0)),
		"CoherenceOf with long":      pack(impl.CoherenceOf(nil, x, short, 0)),
		"CoherenceOf by long":        pack(impl.CoherenceOf(nil, x[:1], p, 0)),
		"SmoothPowers":               pack(impl.SmoothPowers(p, math.MaxInt64)),
		"SmoothPowers by a negative": pack(impl.SmoothPowers(p, -1)),
		"PeaksOf":                    pack(impl.PeaksOf(p, nan)),
		"PeakBetween":                pack(impl.PeakBetween(p, -1)),
		"CentroidOf":                 pack(impl.CentroidOf(p)),
		"MedianOf":                   pack(impl.MedianOf(p)),
		"PowersApart":                pack(impl.PowersApart(p, nil)),
		"PowersApart with long":      pack(impl.PowersApart(nil, p)),
		"PhasesOf":                   pack(impl.PhasesOf(x)),
		"UnwrapPhases":               pack(impl.UnwrapPhases(p)),
		"DelaysOf":                   pack(impl.DelaysOf(p)),
		"BinOf":                      pack(impl.BinOf(x, -1)),
	} {
		want(t, name, lastCode(results), impl.ErrLimit)
		for _, each := range piecesOf(results) {
			want(t, name+": told", each.text(), "[]")
		}
		for _, each := range results[:len(results)-1] {
			switch a := each.(type) {
			case float64:
				wantSameReal(t, name+": told", a, 0)
			case complex128:
				wantSame(t, name+": told", a, 0)
			}
		}
	}
}
