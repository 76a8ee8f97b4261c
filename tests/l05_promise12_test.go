package tests

import (
	"fmt"
	"math"
	"slices"
	"testing"

	"loop.example/g01155/impl"
)

// someSteps are few enough to take all phases of them.
func someSteps() []int { return []int{1, 2, 3, 4, 5, 7, 64} }

func TestPromise12PartsByTheirRules(t *testing.T) {
	for x := range eachBankSignal {
		for _, m := range someSteps() {
			name := fmt.Sprintf("%d numbers by %d", len(x), m)
			parts, code := impl.Polyphase(x, int64(m))
			wantBlocks(t, "Polyphase of "+name, parts, code, toldParts(x, m)...)
			for phase := range m {
				got, code := impl.Decimate(x, int64(m), int64(phase))
				wantSignal(t, fmt.Sprintf("Decimate of %s and %d", name, phase), got, code, parts[phase]...)
			}
			whole, code := impl.Interleave(parts)
			wantSignal(t, "Interleave of "+name, whole, code, x...)
		}
	}
}

func TestPromise12ExpandedByTheirRules(t *testing.T) {
	for x := range eachBankSignal {
		for _, m := range someSteps() {
			name := fmt.Sprintf("Expand of %d numbers by %d", len(x), m)
			got, code := impl.Expand(x, int64(m))
			if len(x)*m > impl.MaxSignal {
				wantCode(t, name, got, code, impl.ErrLimit)
				continue
			}
			wantSignal(t, name, got, code, toldExpanded(x, m)...)
			parts, code := impl.Polyphase(got, int64(m))
			wantSignal(t, name+": the first part", parts[0], code, x...)
			for _, part := range parts[1:] {
				wantSignal(t, name+": another part", part, code, make([]complex128, len(x))...)
			}
		}
	}
}

func TestPromise12Parts(t *testing.T) {
	x := []complex128{1, 2i, complex(minus0, nan), complex(inf, minus0), 5}
	for _, c := range []struct {
		length   int
		m, phase int64
		want     []complex128
	}{
		{5, 1, 0, x}, {5, 2, 0, []complex128{1, x[2], 5}}, {5, 2, 1, []complex128{2i, x[3]}}, {5, 3, 0, []complex128{1, x[3]}},
		{5, 3, 1, []complex128{2i, 5}}, {5, 3, 2, x[2:3]}, {5, 4, 0, []complex128{1, 5}}, {5, 4, 3, x[3:4]}, {5, 5, 4, x[4:]}, {5, 6, 4, x[4:]}, {5, 6, 5, nil},
		{5, 64, 0, x[:1]}, {5, 64, 4, x[4:]}, {5, 64, 5, nil}, {5, 64, 63, nil}, {0, 1, 0, nil}, {0, 64, 63, nil}, {1, 2, 0, x[:1]}, {1, 2, 1, nil},
	} {
		got, code := impl.Decimate(x[:c.length], c.m, c.phase)
		wantSignal(t, fmt.Sprintf("Decimate of %d numbers, %d and %d", c.length, c.m, c.phase), got, code, c.want...)
	}
	parts, code := impl.Polyphase(x, 3)
	wantBlocks(t, "Polyphase by 3", parts, code, []complex128{1, x[3]}, []complex128{2i, 5}, x[2:3])
	parts, code = impl.Polyphase(x[:2], 4)
	wantBlocks(t, "Polyphase by more than there are", parts, code, x[:1], x[1:2], nil, nil)
	parts, code = impl.Polyphase(nil, 3)
	wantBlocks(t, "Polyphase of nothing", parts, code, nil, nil, nil)
	expanded, code := impl.Expand(x[:4], 3)
	wantSignal(t, "Expand by 3", expanded, code, 1, 0, 0, 2i, 0, 0, x[2], 0, 0, x[3], 0, 0)
	expanded, code = impl.Expand(x, 1)
	wantSignal(t, "Expand by 1", expanded, code, x...)
}

func TestPromise12Interleaved(t *testing.T) {
	one, two := []complex128{1}, []complex128{2, complex(minus0, nan)}
	for _, c := range []struct {
		parts [][]complex128
		want  []complex128
	}{
		{[][]complex128{{}}, nil}, {[][]complex128{nil, {}, nil}, nil}, {slices.Repeat([][]complex128{nil}, 64), nil},
		{[][]complex128{two}, two}, {[][]complex128{two, one}, []complex128{2, 1, two[1]}}, {[][]complex128{two, two}, []complex128{2, 2, two[1], two[1]}},
		{[][]complex128{one, nil}, one}, {[][]complex128{one, one, nil}, []complex128{1, 1}}, {[][]complex128{two, one, one}, []complex128{2, 1, 1, two[1]}},
		{[][]complex128{two, two, one}, []complex128{2, 2, 1, two[1], two[1]}},
	} {
		got, code := impl.Interleave(c.parts)
		wantSignal(t, fmt.Sprint("Interleave ", c.parts), got, code, c.want...)
	}
}

func TestPromise12InterleaveErrors(t *testing.T) {
	x := drawnNumbers(257)
	partsOf := func(counts ...int) [][]complex128 {
		var parts [][]complex128
		for _, count := range counts {
			parts = append(parts, x[:count])
		}
		return parts
	}
	for _, c := range []struct {
		name  string
		parts [][]complex128
		code  int64
	}{
		{"none", nil, impl.ErrRange}, {"none", [][]complex128{}, impl.ErrRange},
		{"one", partsOf(256), impl.OK}, {"one", partsOf(257), impl.ErrLimit}, {"one", partsOf(0), impl.OK},
		{"a longer one behind", partsOf(1, 2), impl.ErrRange}, {"nothing ahead", partsOf(0, 1), impl.ErrRange}, {"two more", partsOf(3, 1), impl.ErrRange},
		{"two more behind", partsOf(3, 3, 1), impl.ErrRange}, {"a short one within", partsOf(2, 1, 2), impl.ErrRange}, {"steps", partsOf(3, 2, 1), impl.ErrRange},
		{"full", partsOf(128, 128), impl.OK}, {"too many", partsOf(129, 128), impl.ErrLimit}, {"full, other lengths", partsOf(86, 85, 85), impl.OK},
		{"too many", partsOf(86, 86, 85), impl.ErrLimit}, {"too many that do not fit", partsOf(0, 257), impl.ErrLimit}, {"too many that do not fit", partsOf(56, 201), impl.ErrLimit},
		{"full that do not fit", partsOf(55, 201), impl.ErrRange}, {"full that do not fit", partsOf(0, 256), impl.ErrRange},
		{"MaxFrames", slices.Repeat(partsOf(4), 64), impl.OK}, {"beyond MaxFrames", slices.Repeat(partsOf(1), 65), impl.ErrLimit},
		{"beyond MaxFrames, of nothing", make([][]complex128, 65), impl.ErrLimit}, {"beyond MaxFrames, do not fit", append(make([][]complex128, 64), x[:1]), impl.ErrLimit},
		{"beyond MaxSignal", append(slices.Repeat(partsOf(4), 63), x[:5]), impl.ErrLimit}, {"beyond MaxSignal", append(partsOf(5), slices.Repeat(partsOf(4), 63)...), impl.ErrLimit},
	} {
		got, code := impl.Interleave(c.parts)
		want(t, "Interleave: "+c.name, code, c.code)
		want(t, "Interleave: "+c.name+": told", len(got) == 0 || code == impl.OK, true)
	}
}

// decimatedLengths are those of x and h, of which the convolution may be full.
func decimatedLengths() []lengths {
	var list []lengths
	for a := range 7 {
		for b := range 7 {
			list = append(list, lengths{a, b})
		}
	}
	return append(list, lengths{9, 9}, lengths{20, 13}, lengths{13, 20}, lengths{256, 1}, lengths{1, 256}, lengths{128, 129}, lengths{250, 7})
}

func TestPromise12FilteredAndDecimated(t *testing.T) {
	for _, l := range decimatedLengths() {
		for _, p := range append(pairsOf(l.a, l.b), [2][]complex128{tinySignal(l.a), drawnNumbers(l.b)}) {
			whole, _ := impl.Convolve(p[0], p[1])
			told := toldConvolution(p[0], p[1])
			for _, m := range someSteps() {
				for phase := 0; phase < m; phase += 1 + m/8 {
					name := nameOf(fmt.Sprintf("FilterDecimate by %d and %d", m, phase), p[0], p[1])
					got, code := impl.FilterDecimate(p[0], p[1], int64(m), int64(phase))
					wantSignal(t, name, got, code, toldDecimated(told, m, phase)...)
					some, code := impl.Decimate(whole, int64(m), int64(phase))
					wantSignal(t, name+" and Decimate", got, code, some...)
				}
			}
		}
	}
}

func TestPromise12ExpandedAndFiltered(t *testing.T) {
	for _, l := range decimatedLengths() {
		for _, p := range append(pairsOf(l.a, l.b), [2][]complex128{tinySignal(l.a), drawnNumbers(l.b)}) {
			for _, m := range stepCounts() {
				x, h := p[0], p[1]
				name := nameOf(fmt.Sprintf("ExpandFilter by %d", m), x, h)
				got, code := impl.ExpandFilter(x, h, int64(m))
				if l.a > 0 && l.b > 0 && l.a*m+l.b-1 > impl.MaxSignal {
					wantCode(t, name, got, code, impl.ErrLimit)
					continue
				}
				wantSignal(t, name, got, code, toldExpandFiltered(x, h, m)...)
				for phase := range m {
					part, _ := impl.Decimate(got, int64(m), int64(phase))
					taps, _ := impl.Decimate(h, int64(m), int64(phase))
					alone, code := impl.Convolve(x, taps)
					wantSignal(t, name+": a part of h alone", part[:min(len(alone), len(part))], code, alone...)
				}
			}
		}
	}
}

// TestPromise12ExpandedAndConvolved finds equal numbers, though not the same
// ones: the zeros between add a 0 that has another sign than a sum without them.
func TestPromise12ExpandedAndConvolved(t *testing.T) {
	for _, l := range decimatedLengths() {
		x, h := ruledSignal(l.a), otherSignal(l.b)
		for _, m := range stepCounts() {
			got, code := impl.ExpandFilter(x, h, int64(m))
			if code != impl.OK {
				continue
			}
			expanded, _ := impl.Expand(x, int64(m))
			whole, _ := impl.Convolve(expanded, h)
			want(t, nameOf(fmt.Sprintf("ExpandFilter by %d", m), x, h), slices.EqualFunc(got, whole, impl.IsEqual), true)
		}
	}
}

func TestPromise12Filtered(t *testing.T) {
	e := math.Ldexp(1, -30)
	for _, c := range []struct {
		x, h []complex128
		m    int64
		want []complex128
	}{
		{nil, nil, 3, nil}, {[]complex128{1}, nil, 64, nil}, {nil, []complex128{1}, 1, nil}, {[]complex128{}, []complex128{}, 64, nil},
		{[]complex128{3}, []complex128{2i}, 1, []complex128{6i}}, {[]complex128{3}, []complex128{2i}, 3, []complex128{6i, 0, 0}},
		{[]complex128{1, 2}, []complex128{10, 1}, 2, []complex128{10, 1, 20, 2, 0}}, {[]complex128{1, 2}, []complex128{10, 1, 100}, 2, []complex128{10, 1, 120, 2, 200, 0}},
		{[]complex128{1, 2}, []complex128{10, 1, 100}, 1, []complex128{10, 21, 102, 200}}, {[]complex128{1, 2}, []complex128{10, 1}, 4, []complex128{10, 1, 0, 0, 20, 2, 0, 0, 0}},
		// Zeros are not multiplied by anything.
		{[]complex128{1, 2}, complexOf([]float64{inf}), 2, []complex128{complex(inf, nan), 0, complex(inf, nan), 0}},
		{complexOf([]float64{nan}), []complex128{1, 2}, 3, []complex128{complex(nan, nan), complex(nan, nan), 0, 0}},
		{[]complex128{complex(minus0, 0), complex(minus0, 0)}, []complex128{1, 1}, 2, []complex128{complex(minus0, 0), complex(minus0, 0), complex(minus0, 0), complex(minus0, 0), 0}},
		// The order is that of the numbers of h.
		{[]complex128{1, 1e16, -1e16}, []complex128{1, 7, 1, 7, 1}, 2, []complex128{1, 7, 1e16, 7e16 + 8, 1, 0, 0, -7e16, -1e16, 0}},
		{[]complex128{1, 1, 1}, []complex128{1, 0, 1e16, 0, -1e16}, 2, []complex128{1, 0, 1e16, 0, 0, 0, 0, 0, -1e16, 0}},
		// Products are rounded before they are added.
		{[]complex128{complex(-1-2*e, 0), complex(1+e, 0)}, []complex128{complex(1+e, 0), 0, 1}, 2, []complex128{complex(-1-3*e-2*e*e, 0), complex(minus0, 0), 0, 0, complex(1+e, 0), 0}},
	} {
		got, code := impl.ExpandFilter(c.x, c.h, c.m)
		wantSignal(t, nameOf(fmt.Sprintf("ExpandFilter by %d", c.m), c.x, c.h), got, code, c.want...)
	}
	got, code := impl.FilterDecimate([]complex128{1, 1, 1}, []complex128{1, 1e16, -1e16}, 2, 0)
	wantSignal(t, "FilterDecimate in order", got, code, 1, 0, -1e16)
	got, code = impl.FilterDecimate([]complex128{complex(minus0, 0), complex(inf, 0)}, []complex128{1}, 2, 0)
	wantSignal(t, "FilterDecimate of -0", got, code, complex(minus0, 0))
}

// TestPromise12BitsOfManyParts holds them against a program outside of this one.
func TestPromise12BitsOfManyParts(t *testing.T) {
	parts := hashOfLists(func(x []complex128) [][]complex128 {
		var lists [][]complex128
		for _, m := range stepCounts() {
			parts, _ := impl.Polyphase(x, int64(m))
			expanded, _ := impl.Expand(x, int64(m))
			lists = append(append(lists, parts...), expanded)
		}
		return lists
	})
	want(t, "hash of parts", parts, 0xfa80bda361bedfe7)
	decimated := hashOfPairs(eachPair, func(x, h []complex128) []complex128 {
		var list []complex128
		for _, m := range stepCounts() {
			some, _ := impl.FilterDecimate(x, h, int64(m), int64((len(x)+3*len(h))%m))
			list = append(list, some...)
		}
		return list
	})
	want(t, "hash of FilterDecimate", decimated, 0x20a05bb78a27ca36)
	expanded := hashOfPairs(eachPair, func(x, h []complex128) []complex128 {
		var list []complex128
		for _, m := range stepCounts() {
			some, _ := impl.ExpandFilter(x, h, int64(m))
			list = append(list, some...)
		}
		return list
	})
	want(t, "hash of ExpandFilter", expanded, 0x3b099dad0fa24fae)
}

// stepsThatAreNone are no m of any function.
func stepsThatAreNone() []int64 {
	return []int64{0, -1, -64, 65, 66, 256, 257, 1 << 32, 1<<32 + 1, math.MaxInt64, math.MinInt64}
}

func TestPromise12StepsThatAreNone(t *testing.T) {
	x, long := drawnNumbers(256), drawnNumbers(257)
	for _, m := range stepsThatAreNone() {
		for _, c := range []struct {
			x, h []complex128
			code int64
		}{
			{nil, nil, impl.ErrRange}, {x[:1], nil, impl.ErrRange}, {x, x[:1], impl.ErrRange}, {x[:100], x[:157], impl.ErrRange},
			{long, nil, impl.ErrLimit}, {long, x[:1], impl.ErrLimit},
		} {
			name := fmt.Sprintf("%d numbers by %d", len(c.x), m)
			some, code := impl.Decimate(c.x, m, 0)
			wantCode(t, "Decimate of "+name, some, code, c.code)
			more, code := impl.Expand(c.x, m)
			wantCode(t, "Expand of "+name, more, code, c.code)
			parts, code := impl.Polyphase(c.x, m)
			wantCode(t, "Polyphase of "+name, parts, code, c.code)
			some, code = impl.FilterDecimate(c.x, c.h, m, 0)
			wantCode(t, "FilterDecimate of "+name, some, code, c.code)
			more, code = impl.ExpandFilter(c.x, c.h, m)
			wantCode(t, "ExpandFilter of "+name, more, code, c.code)
			more, code = impl.ExpandFilter(c.h, c.x, m)
			wantCode(t, "ExpandFilter with h of "+name, more, code, c.code)
		}
		more, code := impl.ExpandFilter(x, x, m)
		wantCode(t, "ExpandFilter that would be long", more, code, impl.ErrRange)
		some, code := impl.FilterDecimate(x, x, m, 0)
		wantCode(t, "FilterDecimate that would be long", some, code, impl.ErrLimit)
		some, code = impl.FilterDecimate(x[:2], x, m, 0)
		wantCode(t, "FilterDecimate with one more", some, code, impl.ErrLimit)
	}
}

func TestPromise12PhasesThatAreNone(t *testing.T) {
	x, long := drawnNumbers(256), drawnNumbers(257)
	for _, c := range []struct{ m, phase int64 }{
		{1, 1}, {1, -1}, {2, 2}, {64, 64}, {64, -1}, {5, math.MaxInt64}, {5, math.MinInt64}, {64, 1 << 32}, {65, 64}, {0, 0}, {0, -1}, {-1, -2}, {3, 255}, {3, 256},
	} {
		some, code := impl.Decimate(x, c.m, c.phase)
		wantCode(t, fmt.Sprint("Decimate by ", c), some, code, impl.ErrRange)
		some, code = impl.Decimate(nil, c.m, c.phase)
		wantCode(t, fmt.Sprint("Decimate of nothing by ", c), some, code, impl.ErrRange)
		some, code = impl.Decimate(long, c.m, c.phase)
		wantCode(t, fmt.Sprint("Decimate of a long signal by ", c), some, code, impl.ErrLimit)
		some, code = impl.FilterDecimate(x[:100], x[:157], c.m, c.phase)
		wantCode(t, fmt.Sprint("FilterDecimate by ", c), some, code, impl.ErrRange)
		some, code = impl.FilterDecimate(nil, x, c.m, c.phase)
		wantCode(t, fmt.Sprint("FilterDecimate of nothing by ", c), some, code, impl.ErrRange)
		some, code = impl.FilterDecimate(x[:100], x[:158], c.m, c.phase)
		wantCode(t, fmt.Sprint("FilterDecimate that would be long by ", c), some, code, impl.ErrLimit)
	}
}

func TestPromise12Limits(t *testing.T) {
	for _, c := range []struct {
		a, m int
		code int64
	}{
		{256, 1, impl.OK}, {257, 1, impl.ErrLimit}, {128, 2, impl.OK}, {129, 2, impl.ErrLimit}, {85, 3, impl.OK}, {86, 3, impl.ErrLimit}, {4, 64, impl.OK}, {5, 64, impl.ErrLimit},
		{0, 64, impl.OK}, {1, 64, impl.OK}, {256, 64, impl.ErrLimit}, {257, 64, impl.ErrLimit}, {4, 63, impl.OK},
	} {
		got, code := impl.Expand(drawnNumbers(c.a), int64(c.m))
		wantCount(t, fmt.Sprint("Expand ", c), got, code, c.a*c.m, c.code)
	}
	for _, c := range []struct {
		a, b, m int
		code    int64
	}{
		{256, 1, 1, impl.OK}, {256, 2, 1, impl.ErrLimit}, {1, 256, 1, impl.OK}, {1, 255, 2, impl.OK}, {1, 256, 2, impl.ErrLimit}, {128, 1, 2, impl.OK}, {128, 2, 2, impl.ErrLimit},
		{127, 3, 2, impl.OK}, {127, 4, 2, impl.ErrLimit}, {3, 65, 64, impl.OK}, {3, 66, 64, impl.ErrLimit}, {4, 1, 64, impl.OK}, {4, 2, 64, impl.ErrLimit}, {5, 1, 64, impl.ErrLimit},
		{256, 0, 64, impl.OK}, {0, 256, 64, impl.OK}, {257, 0, 1, impl.ErrLimit}, {0, 257, 1, impl.ErrLimit}, {256, 256, 64, impl.ErrLimit},
	} {
		got, code := impl.ExpandFilter(drawnNumbers(c.a), drawnNumbers(c.b), int64(c.m))
		count := 0
		if c.a > 0 && c.b > 0 {
			count = c.a*c.m + c.b - 1
		}
		wantCount(t, fmt.Sprint("ExpandFilter ", c), got, code, count, c.code)
	}
	for _, c := range []struct {
		a, b, count int
		code        int64
	}{
		{256, 1, 86, impl.OK}, {256, 2, 0, impl.ErrLimit}, {1, 256, 86, impl.OK}, {2, 256, 0, impl.ErrLimit}, {128, 129, 86, impl.OK}, {129, 129, 0, impl.ErrLimit},
		{256, 0, 0, impl.OK}, {0, 256, 0, impl.OK}, {257, 0, 0, impl.ErrLimit}, {0, 257, 0, impl.ErrLimit}, {1, 1, 1, impl.OK}, {2, 2, 1, impl.OK}, {2, 3, 2, impl.OK},
	} {
		got, code := impl.FilterDecimate(drawnNumbers(c.a), drawnNumbers(c.b), 3, 0)
		wantCount(t, fmt.Sprint("FilterDecimate ", c), got, code, c.count, c.code)
	}
}
