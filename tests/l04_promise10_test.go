package tests

import (
	"fmt"
	"math"
	"slices"
	"testing"

	"loop.example/g01155/impl"
)

// pushAll pushes pieces one after the other, and tells what has been told and
// comes behind the end.
func pushAll(t *testing.T, f impl.Filter, pieces [][]complex128) []complex128 {
	t.Helper()
	var told, come []complex128
	for _, piece := range pieces {
		next, out, code := impl.PushFilter(f, piece)
		want(t, "PushFilter: code", code, impl.OK)
		want(t, "PushFilter: told", len(out), len(piece))
		come = append(come, piece...)
		past := come[max(0, len(come)-len(f.Taps)+1):]
		expected := impl.Filter{Taps: f.Taps, Past: past}
		want(t, "PushFilter: the filter", impl.SameFilter(next, expected), true)
		want(t, "ValidFilter", impl.ValidFilter(next), true)
		f, told = next, append(told, out...)
	}
	rest, code := impl.FinishFilter(f)
	want(t, "FinishFilter: code", code, impl.OK)
	return append(told, rest...)
}

// allCuts has a signal in pieces of all cuts, a bit of the number of the cut
// telling whether a place begins a piece; and one number to a piece with empty
// pieces between.
func allCuts(x []complex128) [][][]complex128 {
	var cuts [][][]complex128
	for number := range 1 << max(0, len(x)-1) {
		cuts = append(cuts, cutAt(x, func(i int) bool { return number>>(i-1)&1 == 1 }))
	}
	spaced := [][]complex128{nil}
	for i := range x {
		spaced = append(spaced, x[i:i+1], nil, []complex128{})
	}
	return append(cuts, spaced)
}

func cutAt(x []complex128, begins func(i int) bool) [][]complex128 {
	var pieces [][]complex128
	from := 0
	for i := 1; i <= len(x); i++ {
		if i == len(x) || begins(i) {
			pieces, from = append(pieces, x[from:i]), i
		}
	}
	return pieces
}

func wantFiltered(t *testing.T, taps, x []complex128, pieces [][]complex128, expected []complex128) {
	t.Helper()
	f, code := impl.NewFilter(taps)
	want(t, "NewFilter: code", code, impl.OK)
	name := fmt.Sprintf("%d taps, %d numbers in %d pieces", len(taps), len(x), len(pieces))
	wantSignal(t, name, pushAll(t, f, pieces), impl.OK, expected...)
}

func TestPromise10FiltersTellConvolutions(t *testing.T) {
	for n := range 7 {
		for b := 1; b < 6; b++ {
			for i, x := range signalsOfLength(n) {
				all := signalsOfLength(b)
				for _, taps := range [][]complex128{all[0], all[(i+4)%len(all)]} {
					whole, code := impl.Convolve(x, taps)
					wantSignal(t, "Convolve", whole, code, toldConvolution(x, taps)...)
					for _, pieces := range allCuts(x) {
						wantFiltered(t, taps, x, pieces, whole)
					}
				}
			}
		}
	}
}

func TestPromise10FiltersOfLongSignals(t *testing.T) {
	for _, l := range []lengths{{256, 1}, {200, 57}, {57, 200}, {1, 256}, {128, 129}, {249, 8}} {
		for _, p := range pairsOf(l.a, l.b) {
			whole, code := impl.Convolve(p[0], p[1])
			want(t, "Convolve: code", code, impl.OK)
			for _, every := range []int{1, 2, 7, 8, 9, 56, 100, 256} {
				pieces := cutAt(p[0], func(i int) bool { return i%every == 0 })
				wantFiltered(t, p[1], p[0], pieces, whole)
			}
			uneven := cutAt(p[0], func(i int) bool { return i*i%11 == 3 })
			wantFiltered(t, p[1], p[0], uneven, whole)
		}
	}
}

// TestPromise10FiltersGoOn pushes more numbers than a signal may have.
func TestPromise10FiltersGoOn(t *testing.T) {
	x := append(drawnNumbers(900), ruledSignal(300)...)
	for _, b := range []int{1, 2, 20, 256} {
		taps := otherSignal(b)
		told := toldConvolution(x, taps)
		for _, every := range []int{1, 50, 255, 256} {
			wantFiltered(t, taps, x, cutAt(x, func(i int) bool { return i%every == 0 }), told)
		}
	}
}

func TestPromise10PushFilter(t *testing.T) {
	for _, c := range []struct{ taps, past, x, told, next []complex128 }{
		{[]complex128{2}, nil, []complex128{1, 2, 3}, []complex128{2, 4, 6}, nil},
		{[]complex128{2}, nil, nil, nil, nil},
		{[]complex128{1, -1}, nil, []complex128{1, 2}, []complex128{1, 1}, []complex128{2}},
		{[]complex128{1, -1}, []complex128{2}, []complex128{3}, []complex128{1}, []complex128{3}},
		{[]complex128{1, -1}, []complex128{2}, nil, nil, []complex128{2}},
		{[]complex128{1, 10, 100}, nil, nil, nil, nil},
		{[]complex128{1, 10, 100}, nil, []complex128{5}, []complex128{5}, []complex128{5}},
		{[]complex128{1, 10, 100}, []complex128{4}, []complex128{5}, []complex128{45}, []complex128{4, 5}},
		{[]complex128{1, 10, 100}, []complex128{4}, nil, nil, []complex128{4}},
		{[]complex128{1, 10, 100}, []complex128{3, 4}, []complex128{5}, []complex128{345}, []complex128{4, 5}},
		{[]complex128{1, 10, 100}, []complex128{3, 4}, nil, nil, []complex128{3, 4}},
		{[]complex128{1, 10, 100}, []complex128{3, 4}, []complex128{5, 6, 7, 8}, []complex128{345, 456, 567, 678}, []complex128{7, 8}},
		{[]complex128{1, 10, 100}, nil, []complex128{5, 6, 7, 8}, []complex128{5, 56, 567, 678}, []complex128{7, 8}},
		// The order is that of the taps, and 0 is no first term.
		{[]complex128{1, 1, 1}, []complex128{1, 1e16}, []complex128{-1e16}, []complex128{1}, []complex128{1e16, -1e16}},
		{[]complex128{1, 1, 1}, []complex128{-1e16, 1e16}, []complex128{1}, []complex128{0}, []complex128{1e16, 1}},
		{[]complex128{1, 1}, []complex128{complex(minus0, 0)}, []complex128{complex(minus0, 0)}, []complex128{complex(minus0, 0)}, []complex128{complex(minus0, 0)}},
		{[]complex128{1}, nil, []complex128{complex(-1, minus0)}, []complex128{complex(-1, minus0)}, nil},
		{[]complex128{1, 0}, []complex128{complex(inf, 0)}, []complex128{2}, []complex128{complex(nan, nan)}, []complex128{2}},
		{[]complex128{1, complex(inf, 0)}, []complex128{1}, []complex128{2}, []complex128{complex(inf, nan)}, []complex128{2}},
		{[]complex128{1, 1}, []complex128{complex(nan, 1)}, []complex128{2}, []complex128{complex(nan, nan)}, []complex128{2}},
	} {
		f := impl.Filter{Taps: c.taps, Past: c.past}
		next, told, code := impl.PushFilter(f, c.x)
		name := fmt.Sprintf("PushFilter %v to %v", c.x, f)
		wantSignal(t, name, told, code, c.told...)
		wantSignal(t, name+": Taps", next.Taps, code, c.taps...)
		wantSignal(t, name+": Past", next.Past, code, c.next...)
	}
}

func TestPromise10FinishFilter(t *testing.T) {
	for _, c := range []struct{ taps, past, want []complex128 }{
		{[]complex128{2}, nil, nil}, {[]complex128{1, -1}, nil, nil}, {[]complex128{1, 10, 100}, []complex128{}, nil},
		{[]complex128{1, -1}, []complex128{3}, []complex128{-3}},
		{[]complex128{1, 10, 100}, []complex128{5}, []complex128{50, 500}},
		{[]complex128{1, 10, 100}, []complex128{4, 5}, []complex128{450, 500}},
		{[]complex128{1, 10, 100, 1000}, []complex128{5}, []complex128{50, 500, 5000}},
		{[]complex128{1, 10, 100, 1000}, []complex128{4, 5}, []complex128{450, 4500, 5000}},
		{[]complex128{1, 10, 100, 1000}, []complex128{3, 4, 5}, []complex128{3450, 4500, 5000}},
		{[]complex128{0, 1, 1, 1}, []complex128{1, 1e16, -1e16}, []complex128{1, 0, -1e16}},
		{[]complex128{0, 1, 1}, []complex128{complex(minus0, 0), complex(minus0, 0)}, []complex128{complex(minus0, 0), complex(minus0, 0)}},
		{[]complex128{0, 1, 0}, []complex128{complex(inf, 0), 1}, []complex128{complex(nan, nan), 0}},
		{[]complex128{complex(nan, nan), 1}, []complex128{2}, []complex128{2}},
	} {
		f := impl.Filter{Taps: c.taps, Past: c.past}
		got, code := impl.FinishFilter(f)
		wantSignal(t, fmt.Sprintf("FinishFilter %v", f), got, code, c.want...)
	}
}

// TestPromise10AnyPast gives filters that no other function has returned.
func TestPromise10AnyPast(t *testing.T) {
	for b := 1; b < 7; b++ {
		for p := range b {
			for i, past := range signalsOfLength(p) {
				taps, x := signalsOfLength(b)[(i+2)%9], signalsOfLength(4)[(i+5)%9]
				f := impl.Filter{Taps: taps, Past: past}
				whole := toldConvolution(slices.Concat(past, x), taps)
				_, told, code := impl.PushFilter(f, x)
				wantSignal(t, fmt.Sprintf("PushFilter %v to %v", x, f), told, code, whole[p:p+4]...)
				behind, code := impl.FinishFilter(f)
				var expected []complex128
				if p > 0 {
					expected = toldConvolution(past, taps)[p:]
				}
				wantSignal(t, fmt.Sprintf("FinishFilter %v", f), behind, code, expected...)
			}
		}
	}
}

func TestPromise10NewFilters(t *testing.T) {
	for _, b := range []int{1, 2, 255, 256} {
		taps := brokenSignal(b)
		f, code := impl.NewFilter(taps)
		wantSignal(t, "NewFilter: Taps", f.Taps, code, taps...)
		want(t, "NewFilter: Past", len(f.Past), 0)
		want(t, "ValidFilter", impl.ValidFilter(f), true)
	}
	for _, c := range []struct {
		taps []complex128
		code int64
	}{{nil, impl.ErrRange}, {[]complex128{}, impl.ErrRange}, {make([]complex128, 257), impl.ErrLimit}, {make([]complex128, 100000), impl.ErrLimit}} {
		f, code := impl.NewFilter(c.taps)
		want(t, "NewFilter: code", code, c.code)
		want(t, "NewFilter: a filter", impl.SameFilter(f, impl.Filter{}), true)
	}
}

func TestPromise10FilterErrors(t *testing.T) {
	for _, c := range []struct {
		taps, past, piece int
		code              int64
	}{
		{1, 0, 0, impl.OK}, {1, 0, 256, impl.OK}, {3, 2, 256, impl.OK}, {256, 255, 256, impl.OK}, {256, 0, 1, impl.OK},
		{0, 0, 0, impl.ErrInvalid}, {0, 0, 5, impl.ErrInvalid}, {0, 1, 5, impl.ErrInvalid}, {1, 1, 5, impl.ErrInvalid}, {3, 3, 5, impl.ErrInvalid},
		{3, 4, 5, impl.ErrInvalid}, {256, 256, 5, impl.ErrInvalid}, {3, 256, 256, impl.ErrInvalid}, {0, 256, 256, impl.ErrInvalid},
		{1, 0, 257, impl.ErrLimit}, {0, 0, 257, impl.ErrLimit}, {3, 3, 257, impl.ErrLimit}, {257, 0, 5, impl.ErrLimit}, {257, 256, 5, impl.ErrLimit},
		{257, 257, 5, impl.ErrLimit}, {3, 257, 5, impl.ErrLimit}, {0, 257, 5, impl.ErrLimit}, {256, 257, 0, impl.ErrLimit}, {257, 0, 257, impl.ErrLimit},
	} {
		f := impl.Filter{Taps: make([]complex128, c.taps), Past: make([]complex128, c.past)}
		name := fmt.Sprint("a filter and a piece ", c)
		next, told, code := impl.PushFilter(f, make([]complex128, c.piece))
		wantCount(t, name+": PushFilter", told, code, c.piece, c.code)
		if code != impl.OK {
			want(t, name+": the filter", impl.SameFilter(next, impl.Filter{}), true)
		}
		isLong := c.taps > 256 || c.past > 256
		isValid := !isLong && c.past < c.taps
		want(t, name+": ValidFilter", impl.ValidFilter(f), isValid)
		expected := int64(impl.OK)
		switch {
		case isLong:
			expected = impl.ErrLimit
		case !isValid:
			expected = impl.ErrInvalid
		}
		behind, code := impl.FinishFilter(f)
		wantCount(t, name+": FinishFilter", behind, code, min(c.past, 1)*(c.taps-1), expected)
	}
}

func TestPromise10SameFilters(t *testing.T) {
	f := func(count int, list ...complex128) impl.Filter {
		return impl.Filter{Taps: list[:count], Past: list[count:]}
	}
	for _, c := range []struct {
		f, g impl.Filter
		same bool
	}{
		{impl.Filter{}, impl.Filter{}, true}, {impl.Filter{}, impl.Filter{Taps: []complex128{}, Past: []complex128{}}, true},
		{f(2, 1, 2), f(2, 1, 2), true}, {f(2, 1, 2), f(2, 1, 3), false}, {f(2, 1, 2), f(2, 2, 1), false}, {f(2, 1, 2), f(1, 1, 2), false},
		{f(2, 1, 2, 3), f(2, 1, 2, 3), true}, {f(2, 1, 2, 3), f(2, 1, 2, 4), false}, {f(2, 1, 2, 3), f(2, 1, 2), false}, {f(1, 1), f(2, 1, 1), false},
		{f(0, 1, 2, 3), f(0, 1, 2, 3), true}, {f(0, 1, 2, 3), f(3, 1, 2, 3), false}, {f(1, 1, 0), f(1, 1, complex(minus0, 0)), false},
		{f(1, 0), f(1, complex(0, minus0)), false}, {f(1, complex(nan, inf)), f(1, complex(otherNaN, inf)), true}, {f(1, complex(nan, 0)), f(1, 1), false},
		{f(1, 1, complex(1, otherNaN)), f(1, 1, complex(1, nan)), true}, {f(1, complex(inf, 0)), f(1, complex(-inf, 0)), false},
		{f(300, make([]complex128, 900)...), f(300, make([]complex128, 900)...), true}, {f(300, make([]complex128, 900)...), f(301, make([]complex128, 901)...), false},
	} {
		name := fmt.Sprintf("SameFilter of %d and %d taps", len(c.f.Taps), len(c.g.Taps))
		want(t, name, impl.SameFilter(c.f, c.g), c.same)
		want(t, name, impl.SameFilter(c.g, c.f), c.same)
	}
}

func TestPromise10SignalsThatComeBack(t *testing.T) {
	two := math.Ldexp(1, 53)
	for _, c := range []struct{ x, a, want []complex128 }{
		{nil, nil, nil}, {nil, []complex128{1, 2}, nil}, {[]complex128{}, []complex128{}, nil},
		{[]complex128{1, 2i, 3}, nil, []complex128{1, 2i, 3}},
		{[]complex128{complex(minus0, minus0), complex(nan, inf), 1}, nil, []complex128{complex(minus0, minus0), complex(nan, inf), 1}},
		{[]complex128{5}, []complex128{2}, []complex128{5}}, {[]complex128{complex(minus0, minus0)}, []complex128{complex(nan, 0)}, []complex128{complex(minus0, minus0)}},
		{[]complex128{1, 0, 0, 0}, []complex128{2}, []complex128{1, 2, 4, 8}}, {[]complex128{1, 0, 0, 0}, []complex128{1i}, []complex128{1, 1i, -1, complex(0, -1)}},
		{[]complex128{1, 0, 0, 0, 0}, []complex128{1, 1}, []complex128{1, 1, 2, 3, 5}}, {[]complex128{1, 0, 0, 0}, []complex128{0, 0, 7}, []complex128{1, 0, 0, 7}},
		{[]complex128{1, 10}, []complex128{2, 3, 4, 5, 6}, []complex128{1, 12}}, {[]complex128{1, 0, 0}, []complex128{1, 1, 1e300, 1e300}, []complex128{1, 1, 2}},
		// x comes first in the sum, and then the products in the order of a.
		{[]complex128{-1, complex(two+2, 0), 1}, []complex128{1, 1}, []complex128{-1, complex(two, 0), complex(two-1, 0)}},
		{[]complex128{1, complex(minus0, minus0)}, []complex128{complex(minus0, 0)}, []complex128{1, complex(minus0, 0)}},
		{[]complex128{complex(inf, 0), 1, 1}, []complex128{0.5}, []complex128{complex(inf, 0), complex(inf, nan), complex(nan, nan)}},
		{complexOf([]float64{great, 0, 0}), []complex128{2}, []complex128{complex(great, 0), complex(inf, 0), complex(inf, nan)}},
	} {
		got, code := impl.RecurSignal(c.x, c.a)
		wantSignal(t, nameOf("RecurSignal", c.x, c.a), got, code, c.want...)
	}
	for x, a := range somePairs {
		got, code := impl.RecurSignal(x, a)
		wantSignal(t, nameOf("RecurSignal", x, a), got, code, toldRecurred(x, a)...)
	}
	want(t, "hash of RecurSignal", hashOfPairs(eachPair, signalAlone(impl.RecurSignal)), 0xe157047ac748ce13)
}

func TestPromise10RecurErrors(t *testing.T) {
	for _, c := range []struct {
		x, a int
		code int64
	}{
		{256, 256, impl.OK}, {256, 0, impl.OK}, {0, 256, impl.OK}, {200, 200, impl.OK}, {257, 0, impl.ErrLimit}, {0, 257, impl.ErrLimit},
		{257, 257, impl.ErrLimit}, {1, 257, impl.ErrLimit}, {257, 1, impl.ErrLimit},
	} {
		got, code := impl.RecurSignal(make([]complex128, c.x), make([]complex128, c.a))
		wantCount(t, fmt.Sprint("RecurSignal ", c), got, code, c.x, c.code)
	}
}
