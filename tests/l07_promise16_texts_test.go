package tests

import (
	"fmt"
	"math"
	"slices"
	"strings"
	"testing"

	"loop.example/g01155/impl"
)

func wantStep(t *testing.T, name string, got impl.Step, n, k int64, taps ...int64) {
	t.Helper()
	want(t, name, fmt.Sprint(got.N, got.K, got.Taps), fmt.Sprint(n, k, taps))
}

// wantNoPlan asks for an error with which no plan is told.
func wantNoPlan(t *testing.T, name string, got impl.Plan, code, expected int64) {
	t.Helper()
	wantCode(t, name, got.Steps, code, expected)
}

// wantPlan asks for the plan of some steps.
func wantPlan(t *testing.T, name string, got impl.Plan, code int64, texts ...string) {
	t.Helper()
	want(t, name, impl.PlanText(got), linesOf(texts))
	want(t, name+": steps", len(got.Steps), len(texts))
	want(t, name+": code", code, impl.OK)
}

func TestPromise16FieldsOfSteps(t *testing.T) {
	for _, each := range []struct {
		text string
		step impl.Step
	}{
		{"gain -3 256", impl.Step{Kind: impl.StGain, N: -3, K: 256}},
		{"gain 0 0", impl.Step{Kind: impl.StGain}},
		{"delay 300", impl.Step{Kind: impl.StDelay, N: 300}},
		{"filter 5 -256 0 7", impl.Step{Kind: impl.StFilter, Taps: []int64{5, -256, 0, 7}}},
		{"turn 1024 1023", impl.Step{Kind: impl.StTurn, N: 1024, K: 1023}},
		{"keep 2", impl.Step{Kind: impl.StKeep, N: 2}},
		{"stuff 3", impl.Step{Kind: impl.StStuff, N: 3}},
		{"block 4", impl.Step{Kind: impl.StBlock, N: 4}},
		{"back 5", impl.Step{Kind: impl.StBack, N: 5}},
		{"flip 6", impl.Step{Kind: impl.StFlip, N: 6}},
		{"sum 7", impl.Step{Kind: impl.StSum, N: 7}},
		{"narrow", impl.Step{Kind: impl.StNarrow}},
		{"mirror", impl.Step{Kind: impl.StMirror}},
		{"square", impl.Step{Kind: impl.StSquare}},
	} {
		s, code := impl.ReadStep(each.text)
		wantStep(t, "ReadStep "+each.text, s, each.step.N, each.step.K, each.step.Taps...)
		want(t, "ReadStep "+each.text+": kind", s.Kind, each.step.Kind)
		want(t, "ReadStep "+each.text+": code", code, impl.OK)
		want(t, "StepText", impl.StepText(each.step), each.text)
		want(t, "ValidStep "+each.text, impl.ValidStep(each.step), true)
	}
}

func TestPromise16TextsOfManySteps(t *testing.T) {
	texts := manySteps()
	for _, p := range bothDrawn(200) {
		texts = append(texts, p...)
	}
	for _, text := range texts {
		s, code := impl.ReadStep(text)
		want(t, "ReadStep "+text, code, impl.OK)
		want(t, "StepText", impl.StepText(s), text)
		want(t, "ValidStep "+text, impl.ValidStep(s), true)
	}
}

// textsOfNoStep are those that are nearly the text of a step.
func textsOfNoStep() []string {
	texts := []string{
		"", " ", "0", "1", "1 2", "gain", "gain 1", "gain 1 2 3", "gain 257 0", "gain -257 0", "gain 0 257", "gain 0 -257",
		"gain -0 0", "gain 0 -0", "gain 00 0", "gain 1 +2", "gain 1  2", "gain 1 2 ", "gain 1\t2", "gain 1,2", "gain 1 x", "gain x 1",
		"delay", "delay ", "delay -1", "delay 301", "delay -0", "delay 00", "delay 01", "delay 0300", "delay +1", "delay +0", "delay  1", " delay 1", "delay 1 ", "delay 1  ", "delay\t1", "delay 1\t", "\tdelay 1", "delay 1 0", "delay 1 2",
		"Delay 1", "DELAY 1", "delaY 1", "delay 1\n", "delay 1\r", "\ndelay 1", "delay 1.0", "delay 1.", "delay .5", "delay 1e1", "delay 0x1", "delay 0b1", "delay 0o1", "delay 1_0", "delay one", "delay -", "delay +", "delay --1", "delay 1-", "delay \x00", "delay 1\x00", "delay \xff", "delay １",
		"delay 4294967297", "delay 9223372036854775807", "delay 9223372036854775808", "delay 18446744073709551616", "delay 18446744073709551617", "delay -9223372036854775808", "delay -9223372036854775809", "delay " + strings.Repeat("9", 400), "delay " + strings.Repeat("0", 400) + "1",
		"filter", "filter ", "filter 1 2 3 4 5 6 7 8 9", "filter 257", "filter -257", "filter 1 2 3 4 5 6 7 257", "filter 1  2", "filter 1 2 ", "filter  1", "filter -0", "filter 1 -0", "filter 01", "filter 1 +2", "filter 1\t2", "filter 9223372036854775808", "Filter 1", "filter 1 x", "filter ,",
		"turn", "turn 4", "turn 4 1 0", "turn 0 0", "turn 1 1", "turn 4 4", "turn 4 5", "turn 4 -1", "turn 4 -0", "turn -4 1", "turn -1 -2", "turn 1025 0", "turn 1025 1024", "turn 1024 1024", "turn 04 1", "turn 4 01", "turn 18446744073709551617 0",
		"narrow 0", "narrow 1", "narrow ", " narrow", "narrow\t", "narrow\n", "narrows", "narro", "NARROW", "nar row", "mirror 0", "mirror ", "Mirror", "square 0", "square ", "square\r", "narrow mirror", "narrow\x00",
		"wide", "engine 1", "step", "Gain 1 2", "gain1 2", "delay1", "d 1", "delays 1", "fliter 1", "plan", "kind 1", "ok",
	}
	for word, most := range map[string]int{"keep": 64, "stuff": 64, "block": 16, "back": 16, "flip": 16, "sum": 16} {
		for _, n := range []int{0, -1, most + 1, 4294967297} {
			texts = append(texts, fmt.Sprint(word, " ", n))
		}
		texts = append(texts, word, word+" 02", word+" +2", word+"  2", word+" 2 ", word+" 2 0", word+" 2 2", word+" -0", strings.ToUpper(word)+" 2", strings.ToUpper(word[:1])+word[1:]+" 2")
	}
	return texts
}

func TestPromise16TextsOfNoStep(t *testing.T) {
	for _, text := range textsOfNoStep() {
		s, code := impl.ReadStep(text)
		wantStep(t, fmt.Sprintf("ReadStep %q", text), s, 0, 0)
		want(t, fmt.Sprintf("ReadStep %q: kind", text), s.Kind, 0)
		want(t, fmt.Sprintf("ReadStep %q: code", text), code, impl.ErrSyntax)
		p, code := impl.ReadPlan("keep 2\n" + text + "\n")
		wantNoPlan(t, fmt.Sprintf("ReadPlan with %q", text), p, code, impl.ErrSyntax)
	}
}

// toldValid asks for each kind what its row of the table tells.
func toldValid(s impl.Step) bool {
	noTaps, noK := len(s.Taps) == 0, s.K == 0
	isPart := func(n int64) bool { return n >= -256 && n <= 256 }
	switch s.Kind {
	case impl.StGain:
		return isPart(s.N) && isPart(s.K) && noTaps
	case impl.StDelay:
		return s.N >= 0 && s.N <= 300 && noK && noTaps
	case impl.StFilter:
		for _, tap := range s.Taps {
			if !isPart(tap) {
				return false
			}
		}
		return s.N == 0 && noK && !noTaps && len(s.Taps) <= 8
	case impl.StTurn:
		return s.N >= 1 && s.N <= 1024 && s.K >= 0 && s.K < s.N && noTaps
	case impl.StKeep, impl.StStuff:
		return s.N >= 1 && s.N <= 64 && noK && noTaps
	case impl.StBlock, impl.StBack, impl.StFlip, impl.StSum:
		return s.N >= 1 && s.N <= 16 && noK && noTaps
	case impl.StNarrow, impl.StMirror, impl.StSquare:
		return s.N == 0 && noK && noTaps
	}
	return false
}

// eachOddStep goes through steps at and around the borders of all kinds.
func eachOddStep(yield func(s impl.Step) bool) {
	numbers := []int64{math.MinInt64, -301, -257, -256, -1, 0, 1, 2, 15, 16, 17, 63, 64, 65, 255, 256, 257, 299, 300, 301, 1022, 1023, 1024, 1025, 1 << 32, 1<<32 + 1, math.MaxInt64}
	lists := [][]int64{nil, {}, {0}, {1}, {256}, {-256}, {257}, {-257}, {0, 0}, {1, 2, 3, 4, 5, 6, 7, 8}, {1, 2, 3, 4, 5, 6, 7, 8, 9}, {1, 2, 3, 4, 5, 6, 7, 257}, {math.MinInt64}, {math.MaxInt64}, make([]int64, 8), make([]int64, 9)}
	for _, kind := range []int64{math.MinInt64, -1, 0, 1, 2, 3, 4, 5, 6, 7, 8, 9, 10, 11, 12, 13, 14, 15, 1 << 32, 1<<32 + 1, math.MaxInt64} {
		for _, n := range numbers {
			for _, k := range numbers {
				for _, taps := range lists {
					if !yield(impl.Step{Kind: kind, N: n, K: k, Taps: taps}) {
						return
					}
				}
			}
		}
	}
}

func TestPromise16ValidSteps(t *testing.T) {
	counts := map[bool]int{}
	for s := range eachOddStep {
		expected := toldValid(s)
		counts[expected]++
		if impl.ValidStep(s) != expected {
			t.Fatalf("ValidStep %v: got %v", s, !expected)
		}
		text := impl.StepText(s)
		if (text != "") != expected {
			t.Fatalf("StepText %v: got %q", s, text)
		}
		if !expected {
			continue
		}
		again, code := impl.ReadStep(text)
		want(t, "ReadStep "+text, code, impl.OK)
		want(t, "ReadStep "+text+": the same", impl.SamePlan(impl.Plan{Steps: []impl.Step{s}}, impl.Plan{Steps: []impl.Step{again}}), true)
	}
	want(t, "some are valid, and some are not", counts[true] > 300 && counts[false] > 100000, true)
}

// invalidSteps has one of each kind that is nearly valid, and others.
func invalidSteps() []impl.Step {
	var list []impl.Step
	for kind := int64(impl.StGain); kind <= impl.StSquare; kind++ {
		n := map[int64]int64{impl.StTurn: 4, impl.StKeep: 2, impl.StStuff: 2, impl.StBlock: 2, impl.StBack: 2, impl.StFlip: 2, impl.StSum: 2}[kind]
		if kind == impl.StFilter {
			list = append(list, impl.Step{Kind: kind}, impl.Step{Kind: kind, N: 1, Taps: []int64{1}}, impl.Step{Kind: kind, K: 1, Taps: []int64{1}})
			continue
		}
		list = append(list, impl.Step{Kind: kind, N: n, K: 1025}, impl.Step{Kind: kind, N: 1025}, impl.Step{Kind: kind, N: n, Taps: []int64{16}})
	}
	return append(list, impl.Step{}, impl.Step{Kind: 14}, impl.Step{Kind: -1}, impl.Step{Kind: impl.StFilter, Taps: make([]int64, 9)}, impl.Step{Kind: impl.StTurn})
}

func TestPromise16ValidPlans(t *testing.T) {
	narrow := impl.Step{Kind: impl.StNarrow}
	for count := range 12 {
		p := impl.Plan{Steps: slices.Repeat([]impl.Step{narrow}, count)}
		want(t, fmt.Sprint("ValidPlan of steps: ", count), impl.ValidPlan(p), count <= 8)
		text := impl.PlanText(p)
		if count > 8 {
			want(t, "PlanText of too many steps", text, "")
			continue
		}
		want(t, "PlanText", text, strings.Repeat("narrow\n", count))
		for _, s := range invalidSteps() {
			want(t, "ValidStep", impl.ValidStep(s), false)
			for at := range count {
				other := impl.Plan{Steps: slices.Clone(p.Steps)}
				other.Steps[at] = s
				want(t, fmt.Sprintf("ValidPlan with %v at %d", s, at), impl.ValidPlan(other), false)
				want(t, fmt.Sprintf("PlanText with %v at %d", s, at), impl.PlanText(other), "")
			}
		}
	}
}

func TestPromise16TextsOfPlans(t *testing.T) {
	longest := strings.Repeat("filter"+strings.Repeat(" -256", 8)+"\n", 8)
	for _, text := range []string{
		"", "narrow\n", "delay 1\nkeep 2\n", "delay 0\ndelay 0\n", strings.Repeat("square\n", 8), longest,
		"gain -256 256\ndelay 300\nfilter 1\nturn 1 0\nkeep 64\nstuff 1\nblock 16\nback 1\n", "flip 2\nsum 3\nnarrow\nmirror\nsquare\n",
	} {
		p, code := impl.ReadPlan(text)
		want(t, fmt.Sprintf("ReadPlan %q", text), code, impl.OK)
		want(t, "PlanText", impl.PlanText(p), text)
		want(t, "steps", len(p.Steps), strings.Count(text, "\n"))
	}
	for _, texts := range bothDrawn(500) {
		p, code := impl.ReadPlan(linesOf(texts))
		wantPlan(t, "ReadPlan", p, code, texts...)
		for i, s := range p.Steps {
			want(t, "StepText of a plan", impl.StepText(s), texts[i])
		}
	}
}

func TestPromise16TextsOfNoPlan(t *testing.T) {
	for _, text := range []string{
		"\n", "narrow", "narrow\nmirror", "narrow\n\n", "\nnarrow\n", "narrow\n\nmirror\n", "narrow\r\n", "narrow \n", "narrow\t\n", " narrow\n", "narrow\n ", "narrow\n\t",
		"Narrow\n", "NARROW\n", "delay 1 \n", "delay 1\t\n", "delay  1\n", "delay 01\n", "delay +1\n", "delay -0\n", "delay 301\n", "delay 1\nkeep 0\n", "delay 9223372036854775808\n",
		"delay 1,keep 2\n", "delay 1 keep 2\n", "delay 1;\n", "delay\n1\n", "gain 1\n2\n", "narrow\x00\n", "narrow\nnarrow\x00", strings.Repeat("square\n", 9), strings.Repeat("square\n", 100), strings.Repeat("\n", 8), "narrow\nnone\n",
	} {
		p, code := impl.ReadPlan(text)
		wantNoPlan(t, fmt.Sprintf("ReadPlan %q", text), p, code, impl.ErrSyntax)
	}
}

// TestPromise16LongTextsOfPlans has no plan of MaxText bytes, as the longest text
// of one is shorter; so a long text is told by its error alone.
func TestPromise16LongTextsOfPlans(t *testing.T) {
	for _, line := range []string{"narrow\n", "x", "\n", " ", "delay 1\n", "\x00"} {
		text := strings.Repeat(line, 4002/len(line)+1)
		for length, expected := range map[int]int64{3999: impl.ErrSyntax, 4000: impl.ErrSyntax, 4001: impl.ErrRange, 4002: impl.ErrRange} {
			p, code := impl.ReadPlan(text[:length])
			wantNoPlan(t, fmt.Sprintf("ReadPlan of %d bytes of %q", length, line), p, code, expected)
		}
	}
	zeros := strings.Repeat("0", impl.MaxText-8)
	p, code := impl.ReadPlan("delay " + zeros + "1\n")
	wantNoPlan(t, "ReadPlan of zeros", p, code, impl.ErrSyntax)
	p, code = impl.ReadPlan("delay 0" + zeros + "1\n")
	wantNoPlan(t, "ReadPlan of one more zero", p, code, impl.ErrRange)
}

func TestPromise16SamePlans(t *testing.T) {
	plans := []impl.Plan{
		{}, {Steps: []impl.Step{{}}}, {Steps: []impl.Step{{}, {}}}, {Steps: make([]impl.Step, 9)},
		{Steps: []impl.Step{{Kind: 2}}}, {Steps: []impl.Step{{Kind: 2, N: 1}}}, {Steps: []impl.Step{{Kind: 2, K: 1}}}, {Steps: []impl.Step{{Kind: 2, N: -1}}}, {Steps: []impl.Step{{Kind: -2, N: 1}}},
		{Steps: []impl.Step{{Kind: 3, Taps: []int64{1}}}}, {Steps: []impl.Step{{Kind: 3, Taps: []int64{1, 2}}}}, {Steps: []impl.Step{{Kind: 3, Taps: []int64{2, 1}}}}, {Steps: []impl.Step{{Kind: 3, Taps: []int64{0}}}}, {Steps: []impl.Step{{Kind: 3}}},
		{Steps: []impl.Step{{Kind: 2, N: 1}, {Kind: 5, N: 2}}}, {Steps: []impl.Step{{Kind: 5, N: 2}, {Kind: 2, N: 1}}}, {Steps: []impl.Step{{Kind: 99, Taps: make([]int64, 20)}}},
	}
	for i, p := range plans {
		for k, q := range plans {
			want(t, fmt.Sprintf("SamePlan of %v and %v", p, q), impl.SamePlan(p, q), i == k)
		}
		q := impl.Plan{Steps: append([]impl.Step{}, p.Steps...)}
		for at, s := range q.Steps {
			q.Steps[at].Taps = append([]int64{}, s.Taps...)
		}
		want(t, fmt.Sprintf("SamePlan of %v and a copy", p), impl.SamePlan(p, q), true)
	}
}

// TestPromise16BitsOfTidyTexts holds tidy plans against a program outside of this
// one.
func TestPromise16BitsOfTidyTexts(t *testing.T) {
	hash := hashOf(func(yield func(string) bool) {
		for _, texts := range bothDrawn(5000) {
			tidy, _ := impl.TidyPlan(planFrom(t, texts...))
			after := strings.TrimSuffix(strings.ReplaceAll(impl.PlanText(tidy), "\n", ";"), ";")
			if !yield(strings.Join(texts, ";") + ">" + after) {
				return
			}
		}
	})
	want(t, "hash of tidy texts", hash, 0x7cfea1be618cd9b6)
}
