package tests

import (
	"fmt"
	"math"
	"slices"
	"strings"
	"testing"

	"loop.example/g01155/impl"
)

// someChainSignals are those of the program outside, and any numbers.
func someChainSignals() [][]complex128 {
	list := append(chainSignals(), drawnNumbers(33), mixedSignal())
	for _, odd := range []complex128{complex(minus0, minus0), complex(0, minus0), complex(inf, -inf), complex(nan, 1), complex(great, great), complex(least, -least)} {
		list = append(list, []complex128{odd}, []complex128{odd, odd, odd, odd, odd}, oddSignal(19, odd, 1))
	}
	return list
}

func TestPromise16StepsByTheirRules(t *testing.T) {
	for _, text := range manySteps() {
		s := stepFrom(t, text)
		for _, x := range someChainSignals() {
			expected := toldRun(text, x)
			made, code := impl.RunStep(s, x)
			if len(expected) > impl.MaxSignal {
				wantCode(t, "RunStep "+text, made, code, impl.ErrLimit)
				continue
			}
			wantSignal(t, fmt.Sprint("RunStep ", text, " of ", len(x)), made, code, expected...)
			want(t, "numbers of "+text, int64(len(made)), toldMade(text, int64(len(x))))
		}
	}
}

// TestPromise16StepsOfAnyNumbers has all pairs of parts of every kind.
func TestPromise16StepsOfAnyNumbers(t *testing.T) {
	texts := []string{"gain 16 0", "gain -3 256", "gain 0 16", "gain 0 0", "delay 3", "filter 16", "filter 0", "filter -5 256 0 1", "turn 4 1", "turn 1 0", "turn 7 3", "keep 3", "block 1", "block 4", "block 6", "back 1", "back 2", "back 5", "flip 4", "sum 1", "sum 3", "narrow", "mirror", "square"}
	for _, text := range texts {
		s := stepFrom(t, text)
		for x := range slices.Chunk(anyNumbers(), impl.MaxSignal) {
			made, code := impl.RunStep(s, x)
			wantSignal(t, "RunStep "+text+" of any numbers", made, code, toldRun(text, x)...)
		}
	}
}

func TestPromise16BitsOfManySteps(t *testing.T) {
	hash := hashOf(func(yield func(string) bool) {
		for _, text := range manySteps() {
			for _, x := range chainSignals() {
				made, code := impl.RunStep(stepFrom(t, text), x)
				if !limitOrLines(yield, made, code) {
					return
				}
			}
		}
	})
	want(t, "hash of steps", hash, 0x492f2be9db0187a7)
}

func TestPromise16BitsOfManyPlans(t *testing.T) {
	hash := hashOf(func(yield func(string) bool) {
		for _, texts := range drawnPlans(600, drawnStep) {
			for _, x := range chainSignals() {
				made, code := impl.RunPlan(planFrom(t, texts...), x)
				if !limitOrLines(yield, made, code) {
					return
				}
			}
		}
	})
	want(t, "hash of plans", hash, 0xd9a6b3cb46894e0d)
}

func TestPromise16Steps(t *testing.T) {
	x := []complex128{1, 2i, -3, 4, 5}
	z := complex(minus0, minus0)
	for _, each := range []struct {
		text string
		x    []complex128
		want []complex128
	}{
		{"gain 16 0", x, x},
		{"gain 0 16", x, []complex128{1i, complex(-2, 0), complex(minus0, -3), 4i, 5i}},
		{"gain -8 4", []complex128{2 + 4i}, []complex128{complex(-2, -1.5)}},
		{"gain 16 0", []complex128{z}, []complex128{complex(0, minus0)}},
		{"gain 16 0", []complex128{complex(inf, 0)}, []complex128{complex(inf, nan)}},
		{"gain 256 -256", []complex128{1}, []complex128{16 - 16i}},
		{"delay 0", x, x},
		{"delay 2", x, []complex128{0, 0, 1, 2i, -3}},
		{"delay 4", x, []complex128{0, 0, 0, 0, 1}},
		{"delay 5", x, make([]complex128, 5)},
		{"delay 6", x, make([]complex128, 5)},
		{"delay 300", x, make([]complex128, 5)},
		{"delay 1", []complex128{z, z}, []complex128{0, z}},
		{"filter 16", []complex128{z}, []complex128{z}},
		{"filter 16 16", []complex128{z, z}, []complex128{z, z}},
		{"filter -16", []complex128{z, 1}, []complex128{0, complex(-1, minus0)}},
		{"filter 0", []complex128{-1, complex(inf, nan)}, []complex128{complex(minus0, 0), complex(nan, nan)}},
		{"filter 16 -8", []complex128{2, 4, 6}, []complex128{2, complex(3, 0), complex(4, 0)}},
		{"filter 0 0 16", []complex128{1, 2, 3, 4}, []complex128{0, 0, 1, 2}},
		{"filter 1 2 3 4 5 6 7 8", []complex128{16, 32}, []complex128{1, 4}},
		{"filter 0 16", []complex128{complex(inf, 0), 1, 2}, []complex128{complex(nan, 0), complex(inf, 0), 1}},
		{"turn 4 1", []complex128{1, 1, 1, 1, 1}, []complex128{1, 1i, complex(-1, 0), complex(0, -1), 1}},
		{"turn 4 3", []complex128{1, 1, 1, 1}, []complex128{1, complex(0, -1), complex(-1, 0), 1i}},
		{"turn 1 0", []complex128{2, z}, []complex128{2, complex(0, minus0)}},
		{"keep 1", x, x},
		{"keep 2", x, []complex128{1, -3, 5}},
		{"keep 3", x, []complex128{1, 4}},
		{"keep 4", x, []complex128{1, 5}},
		{"keep 5", x, []complex128{1}},
		{"keep 64", x, []complex128{1}},
		{"stuff 1", x, x},
		{"stuff 3", []complex128{z, 2i}, []complex128{z, 0, 0, 2i, 0, 0}},
		{"block 1", append(x, z), append(x, z)},
		{"block 2", x, []complex128{1 + 2i, 1 - 2i, 1, -7}},
		{"block 5", x[:4], nil},
		{"block 6", x, nil},
		{"block 16", x, nil},
		{"back 1", append(x, z), append(x, z)},
		{"back 2", x, []complex128{0.5 + 1i, 0.5 - 1i, complex(0.5, minus0), -3.5}},
		{"back 6", x, nil},
		{"flip 1", x, x},
		{"flip 2", x, []complex128{2i, 1, 4, -3}},
		{"flip 3", x, []complex128{-3, 2i, 1}},
		{"flip 5", x, []complex128{5, 4, -3, 2i, 1}},
		{"flip 6", x, nil},
		{"sum 1", append(x, z), append(x, z)},
		{"sum 2", []complex128{z, z, 1}, []complex128{z, z, 1}},
		{"sum 3", x, []complex128{1, 1 + 2i, -2 + 2i, 1 + 2i, 6}},
		{"sum 16", x, []complex128{1, 1 + 2i, -2 + 2i, 2 + 2i, 7 + 2i}},
		{"sum 2", []complex128{complex(inf, 0), 1, 2, 3}, []complex128{complex(inf, 0), complex(inf, 0), 3, 5}},
		{"narrow", []complex128{complex(1+0x1p-30, 1e300), complex(minus0, -least), complex(nan, -inf)}, []complex128{complex(1, inf), z, complex(nan, -inf)}},
		{"mirror", []complex128{z, 1 + 2i, complex(nan, -inf)}, []complex128{complex(minus0, 0), 1 - 2i, complex(nan, inf)}},
		{"square", []complex128{z, 3 + 4i, complex(1e300, 0), complex(nan, inf), 2i}, []complex128{0, 25, complex(inf, 0), complex(nan, 0), 4}},
	} {
		made, code := impl.RunStep(stepFrom(t, each.text), each.x)
		wantSignal(t, fmt.Sprint(each.text, " of ", each.x), made, code, each.want...)
		made, code = impl.RunPlan(planFrom(t, each.text), each.x)
		wantSignal(t, fmt.Sprint("plan ", each.text, " of ", each.x), made, code, each.want...)
	}
}

// TestPromise16SumsInOrder has numbers whose sum is another one in another order.
func TestPromise16SumsInOrder(t *testing.T) {
	big := complex(0x1p53, 0)
	made, code := impl.RunStep(stepFrom(t, "sum 3"), []complex128{1, 1, big, 1, 1})
	wantSignal(t, "sums", made, code, 1, 2, big+2, big, big)
	made, code = impl.RunStep(stepFrom(t, "filter 16 16 16"), []complex128{1, 1, big, 1, 1})
	wantSignal(t, "filtered", made, code, 1, 2, big, big, big+2)
}

func TestPromise16SignalsOfNothing(t *testing.T) {
	for _, x := range [][]complex128{nil, {}} {
		for _, text := range manySteps() {
			made, code := impl.RunStep(stepFrom(t, text), x)
			wantSignal(t, "RunStep "+text+" of nothing", made, code)
		}
		made, code := impl.RunPlan(impl.Plan{}, x)
		wantSignal(t, "RunPlan of nothing", made, code)
	}
	made, code := impl.RunPlan(impl.Plan{Steps: []impl.Step{}}, mixedSignal())
	wantSignal(t, "RunPlan without steps", made, code, mixedSignal()...)
}

// TestPromise16LongSignals has just MaxSignal numbers, and one more, at the
// beginning, on the way and at the end.
func TestPromise16LongSignals(t *testing.T) {
	for _, each := range []struct {
		steps  []string
		length int
		want   int64
	}{
		{nil, 256, impl.OK}, {nil, 257, impl.ErrLimit}, {nil, 100000, impl.ErrLimit},
		{[]string{"keep 64"}, 256, impl.OK}, {[]string{"keep 64"}, 257, impl.ErrLimit},
		{[]string{"block 16"}, 256, impl.OK}, {[]string{"block 16"}, 257, impl.ErrLimit}, {[]string{"square"}, 257, impl.ErrLimit},
		{[]string{"stuff 2"}, 128, impl.OK}, {[]string{"stuff 2"}, 129, impl.ErrLimit}, {[]string{"stuff 2"}, 256, impl.ErrLimit},
		{[]string{"stuff 64"}, 4, impl.OK}, {[]string{"stuff 64"}, 5, impl.ErrLimit}, {[]string{"stuff 1"}, 256, impl.OK},
		{[]string{"stuff 2", "keep 2"}, 128, impl.OK}, {[]string{"stuff 2", "keep 2"}, 129, impl.ErrLimit},
		{[]string{"stuff 3", "block 16"}, 85, impl.OK}, {[]string{"stuff 3", "block 16"}, 86, impl.ErrLimit},
		{[]string{"keep 2", "stuff 2"}, 256, impl.OK}, {[]string{"keep 3", "stuff 3"}, 256, impl.ErrLimit}, {[]string{"keep 3", "stuff 3"}, 255, impl.OK},
		{[]string{"block 16", "keep 4", "stuff 4"}, 256, impl.OK}, {[]string{"keep 64", "stuff 63"}, 256, impl.OK}, {[]string{"keep 64", "stuff 64"}, 256, impl.OK},
		{[]string{"stuff 64", "stuff 64", "stuff 64", "stuff 64"}, 0, impl.OK}, {[]string{"stuff 64", "stuff 4"}, 1, impl.OK}, {[]string{"stuff 64", "stuff 5"}, 1, impl.ErrLimit},
		{[]string{"mirror", "delay 300", "gain 1 1", "stuff 2", "narrow"}, 129, impl.ErrLimit},
	} {
		x := oddSignal(each.length, 1, 2i)
		made, code := impl.RunPlan(planFrom(t, each.steps...), x)
		name := fmt.Sprint("RunPlan ", each.steps, " of ", each.length)
		want(t, name, code, each.want)
		narrowMade, code := impl.RunNarrow(planFrom(t, each.steps...), narrowed(x))
		want(t, name+", narrow", code, each.want)
		if each.want != impl.OK {
			want(t, name+": told", len(made)+len(narrowMade), 0)
			continue
		}
		expected, _ := toldChain(each.steps, x)
		wantSignal(t, name, made, impl.OK, expected...)
		expected, _ = toldChain(each.steps, widened(narrowed(x)))
		wantSignal(t, name+", narrow", widened(narrowMade), impl.OK, widened(narrowed(expected))...)
	}
	for _, text := range manySteps() {
		if _, code := impl.RunStep(stepFrom(t, text), make([]complex128, 257)); code != impl.ErrLimit {
			t.Errorf("RunStep %s of a long signal: code %d", text, code)
		}
	}
}

// TestPromise16PlansStepByStep holds plans against their steps, run one by one,
// and against the rules.
func TestPromise16PlansStepByStep(t *testing.T) {
	for _, texts := range drawnPlans(150, drawnStep) {
		p := planFrom(t, texts...)
		for _, x := range append(chainSignals(), mixedSignal()) {
			expected, expectedCode := toldChain(texts, x)
			made, code := impl.RunPlan(p, x)
			name := fmt.Sprint("RunPlan ", texts, " of ", len(x))
			want(t, name+": code", code, expectedCode)
			wantSignal(t, name, made, impl.OK, expected...)
			by, code := x, int64(impl.OK)
			for _, s := range p.Steps {
				if code == impl.OK {
					by, code = impl.RunStep(s, by)
				}
			}
			want(t, name+": code of steps", code, expectedCode)
			wantSignal(t, name+", by steps", by, impl.OK, expected...)
		}
	}
}

func TestPromise16JoinedPlans(t *testing.T) {
	plans := bothDrawn(60)
	for i, first := range plans {
		second := plans[(i*7+3)%len(plans)]
		both := append(slices.Clone(first), second...)
		joined, code := impl.JoinPlans(planFrom(t, first...), planFrom(t, second...))
		if len(both) > impl.MaxSteps {
			wantNoPlan(t, "JoinPlans", joined, code, impl.ErrLimit)
			continue
		}
		wantPlan(t, "JoinPlans", joined, code, both...)
		for _, x := range chainSignals() {
			made, code := impl.RunPlan(joined, x)
			between, one := impl.RunPlan(planFrom(t, first...), x)
			expected, two := impl.RunPlan(planFrom(t, second...), between)
			want(t, "RunPlan of joined plans: code", code, max(one, two))
			wantSignal(t, "RunPlan of joined plans", made, impl.OK, expected...)
		}
	}
}

func TestPromise16JoinedCounts(t *testing.T) {
	for first := range 9 {
		for second := range 9 {
			p, q := planFrom(t, slices.Repeat([]string{"sum 2"}, first)...), planFrom(t, slices.Repeat([]string{"filter 1 2"}, second)...)
			joined, code := impl.JoinPlans(p, q)
			name := fmt.Sprintf("JoinPlans of %d and %d steps", first, second)
			if first+second > 8 {
				wantNoPlan(t, name, joined, code, impl.ErrLimit)
				continue
			}
			wantPlan(t, name, joined, code, append(slices.Repeat([]string{"sum 2"}, first), slices.Repeat([]string{"filter 1 2"}, second)...)...)
		}
	}
}

// TestPromise16TidyPlans has cases in which one thing, at one place, has to be
// done ahead of others.
func TestPromise16TidyPlans(t *testing.T) {
	for _, each := range [][2]string{
		{"", ""}, {"delay 0", ""}, {"keep 1", ""}, {"stuff 1", ""}, {"block 1", ""}, {"flip 1", ""},
		{"delay 1", "delay 1"}, {"keep 2", "keep 2"}, {"stuff 2", "stuff 2"}, {"block 2", "block 2"}, {"flip 2", "flip 2"},
		{"back 1", "back 1"}, {"sum 1", "sum 1"}, {"gain 16 0", "gain 16 0"}, {"filter 16", "filter 16"}, {"turn 1 0", "turn 1 0"}, {"filter 0", "filter 0"}, {"gain 0 0", "gain 0 0"},
		{"delay 0;keep 1;stuff 1;block 1;flip 1;delay 0;keep 1;stuff 1", ""}, {"sum 2;delay 0;sum 2", "sum 2;sum 2"},
		{"mirror;mirror", ""}, {"mirror;mirror;mirror", "mirror"}, {"mirror;mirror;mirror;mirror", ""}, {"mirror;square;mirror", "mirror;square;mirror"},
		{"narrow;narrow", "narrow"}, {"narrow;narrow;narrow", "narrow"}, {"narrow;square;narrow", "narrow;square;narrow"},
		{"square;square", "square;square"}, {"flip 2;flip 2", "flip 2;flip 2"}, {"block 2;back 2", "block 2;back 2"}, {"sum 2;sum 2", "sum 2;sum 2"}, {"gain 0 16;gain 0 16", "gain 0 16;gain 0 16"}, {"filter 1 2;filter 1 2", "filter 1 2;filter 1 2"}, {"turn 4 1;turn 4 3", "turn 4 1;turn 4 3"},
		{"mirror;delay 0;mirror", ""}, {"mirror;keep 1;narrow;mirror", "narrow"}, {"mirror;narrow;mirror;narrow", "narrow"}, {"mirror;delay 1;mirror", "mirror;delay 1;mirror"},
		{"delay 100;delay 200", "delay 300"}, {"delay 100;delay 201", "delay 100;delay 201"}, {"delay 150;delay 150", "delay 300"}, {"delay 300;delay 1", "delay 300;delay 1"}, {"delay 300;delay 300", "delay 300;delay 300"}, {"delay 1;delay 2;delay 3;delay 4", "delay 10"}, {"delay 300;delay 0", "delay 300"},
		{"delay 200;delay 100;delay 200", "delay 300;delay 200"}, {"delay 201;delay 100;delay 200", "delay 201;delay 300"}, {"delay 200;delay 200;delay 100", "delay 200;delay 300"}, {"delay 100;delay 100;delay 100;delay 100", "delay 300;delay 100"},
		{"delay 200;delay 1;delay 100;delay 200", "delay 201;delay 300"}, {"delay 151;delay 150;delay 149;delay 1", "delay 151;delay 300"},
		{"keep 8;keep 8", "keep 64"}, {"keep 5;keep 13", "keep 5;keep 13"}, {"keep 9;keep 7", "keep 63"}, {"keep 64;keep 2", "keep 64;keep 2"}, {"keep 8;keep 8;keep 2", "keep 64;keep 2"}, {"keep 2;keep 8;keep 8", "keep 16;keep 8"}, {"keep 9;keep 8;keep 8", "keep 9;keep 64"}, {"keep 2;keep 2;keep 2;keep 2;keep 2;keep 2", "keep 64"},
		{"stuff 8;stuff 8", "stuff 64"}, {"stuff 5;stuff 13", "stuff 5;stuff 13"}, {"stuff 3;stuff 21", "stuff 63"}, {"stuff 64;stuff 64", "stuff 64;stuff 64"}, {"stuff 32;stuff 3;stuff 2", "stuff 32;stuff 6"}, {"stuff 2;stuff 8;stuff 8", "stuff 16;stuff 8"},
		{"keep 2;stuff 2", "keep 2;stuff 2"}, {"stuff 2;keep 2", "stuff 2;keep 2"}, {"delay 2;keep 2", "delay 2;keep 2"}, {"keep 2;delay 2;keep 2", "keep 2;delay 2;keep 2"},
		{"narrow;delay 3", "delay 3;narrow"}, {"narrow;keep 3", "keep 3;narrow"}, {"narrow;mirror", "mirror;narrow"},
		{"narrow;stuff 2", "narrow;stuff 2"}, {"narrow;flip 2", "narrow;flip 2"}, {"narrow;gain 1 0", "narrow;gain 1 0"}, {"narrow;filter 16", "narrow;filter 16"}, {"narrow;turn 4 1", "narrow;turn 4 1"}, {"narrow;block 2", "narrow;block 2"}, {"narrow;back 1", "narrow;back 1"}, {"narrow;sum 1", "narrow;sum 1"}, {"narrow;square", "narrow;square"}, {"narrow;sum 2", "narrow;sum 2"},
		{"delay 3;narrow", "delay 3;narrow"}, {"keep 3;narrow", "keep 3;narrow"}, {"mirror;narrow", "mirror;narrow"}, {"stuff 2;narrow", "stuff 2;narrow"},
		{"narrow;delay 0", "narrow"}, {"narrow;keep 1", "narrow"}, {"narrow;delay 1;narrow", "delay 1;narrow"}, {"narrow;delay 1;keep 2;mirror", "delay 1;keep 2;mirror;narrow"}, {"narrow;delay 1;delay 2", "delay 3;narrow"}, {"delay 1;narrow;delay 2", "delay 3;narrow"}, {"keep 2;narrow;keep 3", "keep 6;narrow"}, {"mirror;narrow;mirror", "narrow"}, {"stuff 2;narrow;stuff 3", "stuff 2;narrow;stuff 3"}, {"narrow;square;delay 2", "narrow;square;delay 2"},
		{"narrow;narrow;delay 1;narrow;narrow;keep 2;narrow;narrow", "delay 1;keep 2;narrow"}, {"narrow;mirror;narrow;mirror;narrow;mirror;narrow;mirror", "narrow"},
		{"narrow;delay 2;delay 3;mirror;mirror", "delay 5;narrow"},
		// The second thing ahead of the third one, the first one ahead of it, and the third one ahead of the fourth one.
		{"delay 200;mirror;mirror;delay 100;delay 200", "delay 300;delay 200"}, {"keep 2;mirror;mirror;keep 8;keep 8", "keep 16;keep 8"},
		{"delay 200;keep 1;delay 100;delay 200", "delay 300;delay 200"}, {"delay 200;flip 1;delay 100;delay 200", "delay 300;delay 200"}, {"keep 2;delay 0;keep 8;keep 8", "keep 16;keep 8"}, {"stuff 2;block 1;stuff 8;stuff 8", "stuff 16;stuff 8"}, {"delay 200;stuff 1;delay 100;delay 200", "delay 300;delay 200"},
		{"delay 200;narrow;delay 100;delay 200", "delay 200;delay 300;narrow"}, {"keep 2;narrow;keep 8;keep 8", "keep 2;keep 64;narrow"},
		{"narrow;delay 300;delay 1;delay 299", "delay 300;delay 300;narrow"}, {"mirror;delay 0;mirror;keep 2", "keep 2"},
	} {
		tidy, code := impl.TidyPlan(planFrom(t, textsIn(each[0])...))
		wantPlan(t, "TidyPlan "+each[0], tidy, code, textsIn(each[1])...)
		again := toldTidy(textsIn(each[0]))
		want(t, "tidied as told: "+each[0], strings.Join(again, ";"), each[1])
	}
}

func textsIn(list string) []string {
	return strings.FieldsFunc(list, func(r rune) bool { return r == ';' })
}

func TestPromise16TidyPlansByTheirRules(t *testing.T) {
	changed := 0
	for _, texts := range bothDrawn(1500) {
		p := planFrom(t, texts...)
		tidy, code := impl.TidyPlan(p)
		wantPlan(t, fmt.Sprint("TidyPlan ", texts), tidy, code, toldTidy(texts)...)
		again, code := impl.TidyPlan(tidy)
		want(t, "TidyPlan of a tidy plan: the same", impl.SamePlan(tidy, again), true)
		want(t, "TidyPlan of a tidy plan: code", code, impl.OK)
		if !impl.SamePlan(p, tidy) {
			changed++
		}
	}
	want(t, "many plans are tidied", changed > 1000, true)
}

// TestPromise16TidyPlansMakeTheSame holds the bits that tidied plans make against
// those that are made without tidying, for numbers of every kind.
func TestPromise16TidyPlansMakeTheSame(t *testing.T) {
	signals := someChainSignals()
	for x := range slices.Chunk(anyNumbers(), impl.MaxSignal) {
		signals = append(signals, x)
	}
	limits := 0
	for _, texts := range bothDrawn(300) {
		p := planFrom(t, texts...)
		tidy, _ := impl.TidyPlan(p)
		for _, x := range signals {
			made, code := impl.RunPlan(p, x)
			again, codeAgain := impl.RunPlan(tidy, x)
			name := fmt.Sprint("TidyPlan ", texts, " of ", len(x))
			want(t, name+": code", codeAgain, code)
			wantSignal(t, name, again, impl.OK, made...)
			if code == impl.ErrLimit {
				limits++
			}
		}
	}
	want(t, "some signals are too long on the way", limits > 100, true)
}

// TestPromise16InvalidPlans has errors ahead of which ErrInvalid is told.
func TestPromise16InvalidPlans(t *testing.T) {
	long := make([]complex128, 300)
	full := impl.Plan{Steps: make([]impl.Step, 8)}
	for i := range full.Steps {
		full.Steps[i].Kind = impl.StNarrow
	}
	for _, s := range invalidSteps() {
		for _, x := range [][]complex128{nil, {1}, long} {
			made, code := impl.RunStep(s, x)
			wantCode(t, fmt.Sprint("RunStep ", s), made, code, impl.ErrInvalid)
		}
		wantInvalid(t, impl.Plan{Steps: []impl.Step{s}}, full)
		wantInvalid(t, impl.Plan{Steps: []impl.Step{{Kind: impl.StMirror}, s}}, full)
	}
	wantInvalid(t, impl.Plan{Steps: slices.Repeat(full.Steps, 2)}, full)
	wantInvalid(t, impl.Plan{Steps: append(slices.Clone(full.Steps), full.Steps[0])}, full)
	wantInvalid(t, impl.Plan{Steps: make([]impl.Step, 1000)}, full)
}

// wantInvalid asks all functions of plans for ErrInvalid, and nothing else.
func wantInvalid(t *testing.T, p, other impl.Plan) {
	t.Helper()
	name := fmt.Sprint("invalid plan ", p)
	for _, length := range []int{0, 1, 256, 257, 1000} {
		made, code := impl.RunPlan(p, make([]complex128, length))
		wantCode(t, name, made, code, impl.ErrInvalid)
		narrowMade, code := impl.RunNarrow(p, make([]complex64, length))
		wantCode(t, name+", narrow", narrowMade, code, impl.ErrInvalid)
	}
	tidy, code := impl.TidyPlan(p)
	wantNoPlan(t, name+", tidied", tidy, code, impl.ErrInvalid)
	for _, q := range []impl.Plan{{}, other, p} {
		joined, code := impl.JoinPlans(p, q)
		wantNoPlan(t, name+", joined", joined, code, impl.ErrInvalid)
		joined, code = impl.JoinPlans(q, p)
		wantNoPlan(t, name+", joined behind", joined, code, impl.ErrInvalid)
	}
	for _, n := range []int64{math.MinInt64, -1, 0, 1, 1000000, 1000001, math.MaxInt64} {
		after, one := impl.LengthAfter(p, n)
		needed, two := impl.NeededFor(p, n)
		want(t, name+": lengths", [4]int64{after, one, needed, two}, [4]int64{0, impl.ErrInvalid, 0, impl.ErrInvalid})
	}
	isTimeless, one := impl.IsTimeless(p)
	gain, two := impl.GainOfPlan(p)
	want(t, name+": timeless", isTimeless, false)
	wantSame(t, name+": gain", gain, 0)
	want(t, name+": codes", [2]int64{one, two}, [2]int64{impl.ErrInvalid, impl.ErrInvalid})
	want(t, name+": valid", impl.ValidPlan(p), false)
	want(t, name+": text", impl.PlanText(p), "")
}
