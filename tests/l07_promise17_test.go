package tests

import (
	"fmt"
	"math"
	"slices"
	"strings"
	"testing"

	"loop.example/g01155/impl"
)

// lengthCase is a plan, a number, and what is told of both.
type lengthCase struct {
	steps []string
	n     int64
	want  int64
	code  int64
}

func TestPromise17LengthAfter(t *testing.T) {
	for _, each := range []lengthCase{
		{nil, 0, 0, impl.OK}, {nil, 7, 7, impl.OK}, {nil, 1000000, 1000000, impl.OK},
		{[]string{"block 4"}, 7, 4, impl.OK}, {[]string{"block 4"}, 8, 8, impl.OK}, {[]string{"block 4"}, 3, 0, impl.OK}, {[]string{"back 16"}, 999999, 999984, impl.OK}, {[]string{"flip 7"}, 20, 14, impl.OK},
		{[]string{"keep 3"}, 0, 0, impl.OK}, {[]string{"keep 3"}, 1, 1, impl.OK}, {[]string{"keep 3"}, 3, 1, impl.OK}, {[]string{"keep 3"}, 4, 2, impl.OK}, {[]string{"keep 64"}, 1000000, 15625, impl.OK}, {[]string{"keep 64"}, 999937, 15625, impl.OK}, {[]string{"keep 64"}, 999936, 15624, impl.OK},
		{[]string{"stuff 3"}, 0, 0, impl.OK}, {[]string{"stuff 3"}, 5, 15, impl.OK}, {[]string{"stuff 64"}, 15625, 1000000, impl.OK}, {[]string{"stuff 64"}, 15626, 0, impl.ErrLimit}, {[]string{"stuff 64"}, 1000000, 0, impl.ErrLimit}, {[]string{"stuff 1"}, 1000000, 1000000, impl.OK}, {[]string{"stuff 2"}, 500000, 1000000, impl.OK}, {[]string{"stuff 2"}, 500001, 0, impl.ErrLimit},
		{[]string{"delay 300", "gain 1 1", "filter 1 2 3", "turn 7 2", "sum 9", "narrow", "mirror", "square"}, 123456, 123456, impl.OK}, {[]string{"delay 300"}, 0, 0, impl.OK}, {[]string{"delay 300"}, 1000000, 1000000, impl.OK},
		{[]string{"stuff 64", "keep 64"}, 15625, 15625, impl.OK}, {[]string{"stuff 64", "keep 64"}, 15626, 0, impl.ErrLimit}, {[]string{"keep 64", "stuff 64"}, 1000000, 1000000, impl.OK}, {[]string{"keep 64", "stuff 64"}, 999937, 1000000, impl.OK}, {[]string{"keep 63", "stuff 63"}, 999999, 999999, impl.OK}, {[]string{"keep 63", "stuff 63"}, 1000000, 0, impl.ErrLimit},
		{slices.Repeat([]string{"stuff 64"}, 8), 0, 0, impl.OK}, {slices.Repeat([]string{"stuff 64"}, 8), 1, 0, impl.ErrLimit}, {slices.Repeat([]string{"stuff 64"}, 3), 3, 786432, impl.OK}, {slices.Repeat([]string{"keep 64"}, 8), 1000000, 1, impl.OK}, {slices.Repeat([]string{"keep 64"}, 8), 0, 0, impl.OK},
		{[]string{"keep 64", "keep 64", "keep 64", "keep 64", "block 16"}, 1000000, 0, impl.OK}, {[]string{"block 16", "stuff 2", "block 5"}, 40, 60, impl.OK}, {[]string{"block 5", "block 4", "block 3"}, 19, 12, impl.OK}, {[]string{"block 16", "block 15", "block 14"}, 16, 14, impl.OK}, {[]string{"block 16", "block 15", "block 9", "block 16"}, 31, 0, impl.OK},
	} {
		after, code := impl.LengthAfter(planFrom(t, each.steps...), each.n)
		name := fmt.Sprint("LengthAfter of ", each.steps, " and ", each.n)
		want(t, name, after, each.want)
		want(t, name+": code", code, each.code)
	}
}

func TestPromise17NeededFor(t *testing.T) {
	for _, each := range []lengthCase{
		{nil, 0, 0, impl.OK}, {nil, 7, 7, impl.OK}, {nil, 1000000, 1000000, impl.OK},
		{[]string{"block 4"}, 0, 0, impl.OK}, {[]string{"block 4"}, 1, 4, impl.OK}, {[]string{"block 4"}, 4, 4, impl.OK}, {[]string{"block 4"}, 5, 8, impl.OK}, {[]string{"back 16"}, 999985, 1000000, impl.OK}, {[]string{"back 16"}, 1000000, 1000000, impl.OK}, {[]string{"flip 7"}, 999999, 999999, impl.OK}, {[]string{"flip 7"}, 1000000, 0, impl.ErrLimit},
		{[]string{"keep 3"}, 0, 0, impl.OK}, {[]string{"keep 3"}, 1, 1, impl.OK}, {[]string{"keep 3"}, 2, 4, impl.OK}, {[]string{"keep 3"}, 3, 7, impl.OK}, {[]string{"keep 64"}, 15625, 999937, impl.OK}, {[]string{"keep 64"}, 15626, 0, impl.ErrLimit}, {[]string{"keep 1"}, 1000000, 1000000, impl.OK}, {[]string{"keep 3"}, 333334, 1000000, impl.OK}, {[]string{"keep 3"}, 333335, 0, impl.ErrLimit},
		{[]string{"stuff 3"}, 0, 0, impl.OK}, {[]string{"stuff 3"}, 1, 1, impl.OK}, {[]string{"stuff 3"}, 3, 1, impl.OK}, {[]string{"stuff 3"}, 4, 2, impl.OK}, {[]string{"stuff 64"}, 1000000, 15625, impl.OK}, {[]string{"stuff 64"}, 999937, 15625, impl.OK}, {[]string{"stuff 3"}, 999999, 333333, impl.OK}, {[]string{"stuff 3"}, 1000000, 0, impl.ErrLimit},
		{[]string{"delay 300", "gain 1 1", "filter 1 2 3", "turn 7 2", "sum 9", "narrow", "mirror", "square"}, 123456, 123456, impl.OK}, {[]string{"delay 300"}, 1, 1, impl.OK}, {[]string{"delay 300"}, 0, 0, impl.OK},
		{[]string{"stuff 64", "keep 64"}, 15625, 15625, impl.OK}, {[]string{"stuff 64", "keep 64"}, 15626, 0, impl.ErrLimit}, {[]string{"stuff 2", "keep 64"}, 2, 33, impl.OK}, {[]string{"keep 64", "stuff 2"}, 3, 65, impl.OK}, {[]string{"stuff 63", "keep 2", "keep 2"}, 250000, 15873, impl.OK}, {[]string{"stuff 64", "keep 2"}, 500000, 15625, impl.OK}, {[]string{"stuff 63", "keep 2"}, 500000, 15873, impl.OK}, {[]string{"stuff 62", "keep 2"}, 500000, 0, impl.ErrLimit}, {[]string{"stuff 63", "keep 3"}, 333333, 15873, impl.OK},
		{[]string{"stuff 3", "block 16"}, 999985, 0, impl.ErrLimit}, {[]string{"stuff 3", "block 16"}, 999984, 333328, impl.OK},
		{slices.Repeat([]string{"stuff 64"}, 8), 0, 0, impl.OK}, {slices.Repeat([]string{"stuff 64"}, 8), 1, 0, impl.ErrLimit}, {slices.Repeat([]string{"stuff 64"}, 3), 1000000, 0, impl.ErrLimit}, {slices.Repeat([]string{"stuff 64"}, 3), 786432, 3, impl.OK}, {slices.Repeat([]string{"stuff 64"}, 3), 786433, 0, impl.ErrLimit},
		{slices.Repeat([]string{"keep 64"}, 8), 0, 0, impl.OK}, {slices.Repeat([]string{"keep 64"}, 8), 1, 1, impl.OK}, {slices.Repeat([]string{"keep 64"}, 8), 2, 0, impl.ErrLimit}, {slices.Repeat([]string{"keep 64"}, 8), 1000000, 0, impl.ErrLimit}, {slices.Repeat([]string{"keep 64"}, 3), 4, 786433, impl.OK}, {slices.Repeat([]string{"keep 64"}, 3), 5, 0, impl.ErrLimit},
		{[]string{"stuff 2", "keep 64", "keep 64", "keep 64", "keep 64"}, 2, 0, impl.ErrLimit}, {[]string{"stuff 64", "stuff 64", "keep 64", "keep 64", "keep 64"}, 3, 129, impl.OK}, {[]string{"stuff 64", "stuff 64", "keep 64", "keep 64", "keep 64"}, 4, 193, impl.OK}, {[]string{"stuff 64", "stuff 64", "keep 64", "keep 64", "keep 64"}, 5, 0, impl.ErrLimit},
		{[]string{"keep 64", "keep 64", "keep 64", "keep 64", "block 16"}, 0, 0, impl.OK}, {[]string{"keep 64", "keep 64", "keep 64", "keep 64", "block 16"}, 1, 0, impl.ErrLimit}, {[]string{"block 16", "block 15", "block 14"}, 1, 16, impl.OK}, {[]string{"block 16", "block 15", "block 14"}, 15, 32, impl.OK}, {[]string{"block 2", "block 3"}, 4, 6, impl.OK}, {[]string{"block 3", "block 2"}, 3, 6, impl.OK}, {[]string{"block 3", "block 2"}, 4, 6, impl.OK},
	} {
		needed, code := impl.NeededFor(planFrom(t, each.steps...), each.n)
		name := fmt.Sprint("NeededFor of ", each.steps, " and ", each.n)
		want(t, name, needed, each.want)
		want(t, name+": code", code, each.code)
	}
}

// edgeLengths are those that a program outside of this one asks about too.
func edgeLengths() []int64 {
	return []int64{0, 1, 2, 3, 15, 16, 17, 100, 4095, 65536, 999999, 1000000}
}

func TestPromise17BitsOfManyLengths(t *testing.T) {
	hash := hashOf(func(yield func(string) bool) {
		for _, texts := range bothDrawn(1000) {
			p := planFrom(t, texts...)
			for _, n := range edgeLengths() {
				after, one := impl.LengthAfter(p, n)
				needed, two := impl.NeededFor(p, n)
				if !yield(fmt.Sprint(after, one, needed, two)) {
					return
				}
			}
		}
	})
	want(t, "hash of lengths", hash, 0xa312ebac21f472be)
}

// TestPromise17LengthsByTheirRules tries all numbers one after the other for what
// is needed.
func TestPromise17LengthsByTheirRules(t *testing.T) {
	plans := bothDrawn(100)
	for _, text := range manySteps() {
		plans = append(plans, []string{text})
	}
	for _, texts := range plans {
		p := planFrom(t, texts...)
		for _, n := range []int64{0, 1, 2, 5, 16, 31, 64, 100} {
			expected, expectedCode := toldLength(texts, n)
			after, code := impl.LengthAfter(p, n)
			want(t, fmt.Sprint("LengthAfter of ", texts, " and ", n), [2]int64{after, code}, [2]int64{expected, expectedCode})
			expected, expectedCode = toldNeeded(texts, n)
			needed, code := impl.NeededFor(p, n)
			want(t, fmt.Sprint("NeededFor of ", texts, " and ", n), [2]int64{needed, code}, [2]int64{expected, expectedCode})
		}
	}
}

// TestPromise17NothingIsNeededButThat finds that one number less is too little.
func TestPromise17NothingIsNeededButThat(t *testing.T) {
	limits := 0
	for _, texts := range bothDrawn(400) {
		p := planFrom(t, texts...)
		for _, n := range append(edgeLengths(), 7, 1000, 250000) {
			needed, code := impl.NeededFor(p, n)
			if code != impl.OK {
				want(t, fmt.Sprint("NeededFor of ", texts, " and ", n), [2]int64{needed, code}, [2]int64{0, impl.ErrLimit})
				limits++
				continue
			}
			after, code := impl.LengthAfter(p, needed)
			name := fmt.Sprint("LengthAfter ", needed, " for ", texts, " and ", n)
			want(t, name+": code", code, impl.OK)
			want(t, name, after >= n, true)
			if needed > 0 {
				before, code := impl.LengthAfter(p, needed-1)
				want(t, name+", less 1", before < n && code == impl.OK, true)
			}
		}
	}
	want(t, "some lengths are too great", limits > 100, true)
}

// TestPromise17NumbersThatAreMade counts them.
func TestPromise17NumbersThatAreMade(t *testing.T) {
	for _, texts := range bothDrawn(200) {
		p := planFrom(t, texts...)
		for _, n := range []int64{0, 1, 2, 3, 5, 16, 17, 31, 100, 255, 256} {
			made, code := impl.RunPlan(p, make([]complex128, n))
			if code != impl.OK {
				continue
			}
			after, code := impl.LengthAfter(p, n)
			want(t, fmt.Sprint("LengthAfter of ", texts, " and ", n), after, int64(len(made)))
			want(t, "LengthAfter: code", code, impl.OK)
			needed, code := impl.NeededFor(p, after)
			want(t, fmt.Sprint("NeededFor of ", texts, " and ", after), needed <= n && code == impl.OK, true)
		}
	}
}

func TestPromise17LengthsThatAreNone(t *testing.T) {
	for _, n := range []int64{-1, math.MinInt64, -1000000, 1000001, 1 << 32, math.MaxInt64} {
		for _, steps := range [][]string{nil, {"stuff 64"}, {"keep 64"}, {"block 3", "mirror"}, slices.Repeat([]string{"stuff 64"}, 8), slices.Repeat([]string{"keep 64"}, 8)} {
			p := planFrom(t, steps...)
			after, one := impl.LengthAfter(p, n)
			needed, two := impl.NeededFor(p, n)
			want(t, fmt.Sprint("lengths of ", steps, " and ", n), [4]int64{after, one, needed, two}, [4]int64{0, impl.ErrRange, 0, impl.ErrRange})
		}
	}
}

// TestPromise17NothingOfAnything has plans that make nothing of any signal, as a
// signal is too short for them.
func TestPromise17NothingOfAnything(t *testing.T) {
	for _, steps := range [][]string{{"keep 64", "block 5"}, {"keep 64", "keep 4", "block 2"}, {"keep 16", "block 16", "keep 2", "keep 64", "flip 2"}} {
		p := planFrom(t, steps...)
		for n := range int64(257) {
			made, code := impl.RunPlan(p, drawnNumbers(int(n)))
			wantSignal(t, fmt.Sprint("RunPlan ", steps, " of ", n), made, code)
			after, code := impl.LengthAfter(p, n)
			want(t, fmt.Sprint("LengthAfter of ", steps, " and ", n), [2]int64{after, code}, [2]int64{0, impl.OK})
		}
		needed, code := impl.NeededFor(p, 1)
		want(t, fmt.Sprint("NeededFor of ", steps), needed > 256 && code == impl.OK, true)
	}
}

func toldTimeless(texts []string) bool {
	for _, text := range texts {
		word, _ := wordsOf(text)
		if !slices.Contains([]string{"gain", "narrow", "mirror", "square"}, word) {
			return false
		}
	}
	return true
}

func TestPromise17TimelessPlans(t *testing.T) {
	plans := bothDrawn(600)
	for _, text := range manySteps() {
		plans = append(plans, []string{text}, []string{"gain 1 2", text}, []string{text, "square", "mirror"})
	}
	counts := map[bool]int{}
	for _, texts := range append(plans, nil, []string{"narrow", "mirror", "square", "gain 1 2"}) {
		isTimeless, code := impl.IsTimeless(planFrom(t, texts...))
		expected := toldTimeless(texts)
		counts[expected]++
		want(t, fmt.Sprint("IsTimeless ", texts), isTimeless, expected)
		want(t, fmt.Sprint("IsTimeless ", texts, ": code"), code, impl.OK)
	}
	want(t, "some are timeless, and some are not", counts[true] > 100 && counts[false] > 100, true)
}

// timelessPlans has plans of few steps, and of many.
func timelessPlans() [][]string {
	list := [][]string{nil, {"gain 16 0"}, {"gain 0 0"}, {"gain -3 256"}, {"narrow"}, {"mirror"}, {"square"}, {"square", "narrow", "gain 1 -1", "mirror", "gain 0 16", "square", "narrow", "mirror"}}
	for _, texts := range drawnPlans(3000, drawnStep) {
		if toldTimeless(texts) && len(texts) > 1 {
			list = append(list, texts)
		}
	}
	return list
}

// TestPromise17TimelessPlansLookAtEachNumberAlone runs them on each number, and
// on signals in which the numbers stand in another order.
func TestPromise17TimelessPlansLookAtEachNumberAlone(t *testing.T) {
	for _, texts := range timelessPlans() {
		p := planFrom(t, texts...)
		for _, x := range someChainSignals() {
			made, code := impl.RunPlan(p, x)
			var alone []complex128
			for i := range x {
				one, code := impl.RunPlan(p, x[i:i+1])
				want(t, fmt.Sprint("RunPlan ", texts, " of one number: code"), [2]int64{int64(len(one)), code}, [2]int64{1, impl.OK})
				alone = append(alone, one...)
			}
			wantSignal(t, fmt.Sprint("RunPlan ", texts), made, code, alone...)
			backwards := slices.Clone(x)
			slices.Reverse(backwards)
			slices.Reverse(alone)
			made, code = impl.RunPlan(p, backwards)
			wantSignal(t, fmt.Sprint("RunPlan ", texts, " backwards"), made, code, alone...)
		}
	}
}

func TestPromise17GainsOfPlans(t *testing.T) {
	for _, each := range []struct {
		steps []string
		want  complex128
	}{
		{nil, 1}, {[]string{"gain 0 16"}, 1i}, {[]string{"gain 8 -4"}, complex(0.5, -0.25)}, {[]string{"gain 0 0"}, 0}, {[]string{"narrow"}, 1}, {[]string{"mirror"}, complex(1, minus0)}, {[]string{"square"}, 1},
		{[]string{"gain 16 16", "square"}, 2}, {[]string{"gain 16 16", "mirror"}, 1 - 1i}, {[]string{"gain 16 32", "gain 16 32"}, -3 + 4i}, {[]string{"gain 1 0", "gain 1 0", "gain 1 0", "gain 1 0", "gain 1 0", "gain 1 0", "gain 1 0", "narrow"}, 0x1p-28},
	} {
		gain, code := impl.GainOfPlan(planFrom(t, each.steps...))
		wantSignal(t, fmt.Sprint("GainOfPlan ", each.steps), []complex128{gain}, code, each.want)
	}
	for _, text := range []string{"delay 0", "delay 1", "filter 16", "turn 1 0", "keep 1", "stuff 1", "block 1", "back 1", "flip 1", "sum 1", "block 16"} {
		for _, steps := range [][]string{{text}, {"gain 1 1", text}, {text, "mirror"}} {
			gain, code := impl.GainOfPlan(planFrom(t, steps...))
			wantSame(t, fmt.Sprint("GainOfPlan ", steps), gain, 0)
			want(t, fmt.Sprint("GainOfPlan ", steps, ": code"), code, impl.ErrState)
		}
	}
}

func TestPromise17BitsOfManyGains(t *testing.T) {
	hash := hashOf(func(yield func(string) bool) {
		for _, texts := range drawnPlans(3000, drawnStep) {
			gain, code := impl.GainOfPlan(planFrom(t, texts...))
			if code == impl.ErrState && !yield("state") || code == impl.OK && !yield(impl.BitsText(gain)) {
				return
			}
			want(t, "GainOfPlan: code", code == impl.OK || code == impl.ErrState, true)
		}
	})
	want(t, "hash of gains", hash, 0xf4f7f0b4791afee4)
}

// TestPromise17NarrowingAtTheEnd holds what is narrowed against what is made in
// the wide width.
func TestPromise17NarrowingAtTheEnd(t *testing.T) {
	for _, texts := range bothDrawn(150) {
		p := planFrom(t, texts...)
		for _, wideSignal := range someChainSignals() {
			x := narrowed(wideSignal)
			made, code := impl.RunPlan(p, widened(x))
			narrowMade, narrowCode := impl.RunNarrow(p, x)
			name := fmt.Sprint("RunNarrow ", texts, " of ", len(x))
			want(t, name+": code", narrowCode, code)
			want(t, name, narrowTextOf(narrowMade), narrowTextOf(narrowed(made)))
			wantNarrowAtTheEnd(t, texts, widened(x))
			wantNarrowAtTheEnd(t, texts, wideSignal)
		}
	}
}

// wantNarrowAtTheEnd asks that a step narrow at the end narrows each number.
func wantNarrowAtTheEnd(t *testing.T, texts []string, x []complex128) {
	t.Helper()
	if len(texts) == impl.MaxSteps {
		return
	}
	made, code := impl.RunPlan(planFrom(t, texts...), x)
	last, lastCode := impl.RunPlan(planFrom(t, append(slices.Clone(texts), "narrow")...), x)
	name := fmt.Sprint("narrow behind ", texts)
	want(t, name+": code", lastCode, code)
	wantSignal(t, name, last, impl.OK, widened(narrowed(made))...)
	for _, each := range last {
		want(t, name+": narrow", impl.IsNarrow(each), true)
	}
}

func narrowTextOf(x []complex64) string {
	var lines []string
	narrowLines(func(line string) bool { lines = append(lines, line); return true }, x)
	return strings.Join(lines, ",")
}

func TestPromise17BitsOfManyNarrowSignals(t *testing.T) {
	hash := hashOf(func(yield func(string) bool) {
		for _, texts := range drawnPlans(600, drawnStep) {
			for _, x := range chainSignals() {
				made, code := impl.RunNarrow(planFrom(t, texts...), narrowed(x))
				if code == impl.ErrLimit && !yield("limit") || code == impl.OK && !narrowLines(yield, made) {
					return
				}
			}
		}
	})
	want(t, "hash of narrow plans", hash, 0xfa3b16acc185191c)
}

// TestPromise17NarrowSignals has numbers for which it matters that nothing is
// rounded on the way, and that what is too great there is not at the end.
func TestPromise17NarrowSignals(t *testing.T) {
	made, code := impl.RunNarrow(planFrom(t, "gain 256 0", "gain 1 0"), []complex64{complex(math.MaxFloat32, 0)})
	want(t, "RunNarrow of a great number", narrowTextOf(made), narrowTextOf([]complex64{complex(math.MaxFloat32, 0)}))
	want(t, "RunNarrow of a great number: code", code, impl.OK)
	made, code = impl.RunNarrow(planFrom(t, "gain 256 0"), []complex64{complex(math.MaxFloat32, -math.MaxFloat32)})
	want(t, "RunNarrow of a greater number", narrowTextOf(made), narrowTextOf([]complex64{complex(float32(inf), float32(-inf))}))
	want(t, "RunNarrow of a greater number: code", code, impl.OK)
	made, code = impl.RunNarrow(planFrom(t, "sum 3"), []complex64{1 << 24, 1, 1})
	want(t, "RunNarrow of a sum", narrowTextOf(made), narrowTextOf([]complex64{1 << 24, 1 << 24, 1<<24 + 2}))
	want(t, "RunNarrow of a sum: code", code, impl.OK)
	for _, x := range [][]complex64{nil, {}} {
		made, code = impl.RunNarrow(planFrom(t, "sum 3"), x)
		wantCode(t, "RunNarrow of nothing", made, code, impl.OK)
	}
	made, code = impl.RunNarrow(impl.Plan{}, narrowed(mixedSignal()))
	want(t, "RunNarrow without steps", narrowTextOf(made), narrowTextOf(narrowed(mixedSignal())))
	want(t, "RunNarrow without steps: code", code, impl.OK)
}
