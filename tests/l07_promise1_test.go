package tests

import (
	"fmt"
	"slices"
	"strings"
	"testing"

	"loop.example/g01155/impl"
)

// planWithRoom has two steps with the same taps, and numbers behind all slices.
func planWithRoom() impl.Plan {
	taps := append([]int64{16, -3, 256}, 7, 8)[:3]
	steps := []impl.Step{
		{Kind: impl.StFilter, Taps: taps}, {Kind: impl.StNarrow}, {Kind: impl.StFilter, Taps: taps}, {Kind: impl.StNarrow},
		{Kind: impl.StDelay, N: 2, Taps: taps[:0]}, {Kind: impl.StKeep, N: 2},
	}
	return impl.Plan{Steps: append(steps, impl.Step{Kind: impl.StFilter, Taps: taps}, impl.Step{Kind: 99, N: 5})[:6]}
}

// planTextUpTo has all fields of a plan, up to the capacities.
func planTextUpTo(p impl.Plan) string {
	text := fmt.Sprint(" ", len(p.Steps))
	for _, s := range p.Steps[:cap(p.Steps)] {
		text += fmt.Sprint(" ", s.Kind, s.N, s.K, len(s.Taps), s.Taps[:cap(s.Taps)])
	}
	return text
}

// piecesOfPlan are its steps without their taps, and the taps of each step.
func piecesOfPlan(p impl.Plan) []piece {
	steps := pieceOf(p.Steps, impl.Step{Kind: 9})
	steps.text = func() string {
		text := ""
		for _, s := range p.Steps {
			text += fmt.Sprint(s.Kind, s.N, s.K, len(s.Taps), ";")
		}
		return text
	}
	pieces := []piece{steps}
	for _, s := range p.Steps {
		pieces = append(pieces, pieceOf(s.Taps, 9))
	}
	return pieces
}

func chainCalls() map[string]func(g given) []any {
	calls := map[string]func(g given) []any{
		"ValidStep":         func(g given) []any { return pack(impl.ValidStep(g.plan.Steps[0])) },
		"StepText":          func(g given) []any { return pack(impl.StepText(g.plan.Steps[0])) },
		"ReadStep":          func(g given) []any { return pack(impl.ReadStep("filter 1 2 3")) },
		"ReadStep, another": func(g given) []any { return pack(impl.ReadStep("gain 1 2")) },
		"ValidPlan":         func(g given) []any { return pack(impl.ValidPlan(g.plan)) },
		"SamePlan":          func(g given) []any { return pack(impl.SamePlan(g.plan, g.plan)) },
		"PlanText":          func(g given) []any { return pack(impl.PlanText(g.plan)) },
		"ReadPlan":          func(g given) []any { return pack(impl.ReadPlan("filter 1 2 3\nfilter 1 2 3\nkeep 1\n")) },
		"RunPlan":           func(g given) []any { return pack(impl.RunPlan(g.plan, g.x)) },
		"RunPlan, no steps": func(g given) []any { return pack(impl.RunPlan(impl.Plan{Steps: g.plan.Steps[:0]}, g.x)) },
		"RunNarrow":         func(g given) []any { return pack(impl.RunNarrow(g.plan, g.narrow)) },
		"RunNarrow, no steps": func(g given) []any {
			return pack(impl.RunNarrow(impl.Plan{}, g.narrow))
		},
		"TidyPlan":         func(g given) []any { return pack(impl.TidyPlan(g.plan)) },
		"TidyPlan, tidy":   func(g given) []any { return pack(impl.TidyPlan(impl.Plan{Steps: g.plan.Steps[:3]})) },
		"TidyPlan, empty":  func(g given) []any { return pack(impl.TidyPlan(impl.Plan{Steps: g.plan.Steps[:0]})) },
		"JoinPlans":        func(g given) []any { return pack(impl.JoinPlans(g.plan, impl.Plan{Steps: g.plan.Steps[:2]})) },
		"JoinPlans, first": func(g given) []any { return pack(impl.JoinPlans(g.plan, impl.Plan{})) },
		"JoinPlans, last":  func(g given) []any { return pack(impl.JoinPlans(impl.Plan{}, g.plan)) },
		"JoinPlans, itself": func(g given) []any {
			half := impl.Plan{Steps: g.plan.Steps[:4]}
			return pack(impl.JoinPlans(half, half))
		},
		"LengthAfter": func(g given) []any { return pack(impl.LengthAfter(g.plan, 77)) },
		"NeededFor":   func(g given) []any { return pack(impl.NeededFor(g.plan, 77)) },
		"IsTimeless":  func(g given) []any { return pack(impl.IsTimeless(g.plan)) },
		"GainOfPlan":  func(g given) []any { return pack(impl.GainOfPlan(impl.Plan{Steps: g.plan.Steps[1:2]})) },
	}
	for _, text := range []string{"gain 1 2", "delay 0", "delay 2", "delay 9", "filter 16 1", "turn 5 2", "keep 1", "keep 2", "stuff 1", "stuff 2", "block 1", "block 3", "back 1", "back 2", "flip 1", "flip 4", "sum 1", "sum 4", "narrow", "mirror", "square"} {
		s, _ := impl.ReadStep(text)
		calls["RunStep "+text] = func(g given) []any { return pack(impl.RunStep(s, g.x)) }
	}
	calls["RunStep of a given one"] = func(g given) []any { return pack(impl.RunStep(g.plan.Steps[0], g.x)) }
	return calls
}

func TestPromise1ChainsStayAsTheyAre(t *testing.T) {
	for name, run := range chainCalls() {
		wantStays(t, name, run)
	}
}

// TestPromise1PlansAreNotShared finds that plans that are handed out stay what
// they are when what they have been made of is overwritten.
func TestPromise1PlansAreNotShared(t *testing.T) {
	source := planWithRoom()
	tidy, one := impl.TidyPlan(source)
	joined, two := impl.JoinPlans(source, impl.Plan{Steps: source.Steps[:2]})
	want(t, "codes", [2]int64{one, two}, [2]int64{impl.OK, impl.OK})
	tidyText, joinedText := impl.PlanText(tidy), impl.PlanText(joined)
	want(t, "tidied", tidyText, "filter 16 -3 256\nnarrow\nfilter 16 -3 256\ndelay 2\nkeep 2\nnarrow\n")
	for i := range source.Steps {
		clear(source.Steps[i].Taps)
	}
	clear(source.Steps)
	want(t, "tidied, the source overwritten", impl.PlanText(tidy), tidyText)
	want(t, "joined, the source overwritten", impl.PlanText(joined), joinedText)
	clear(tidy.Steps[0].Taps)
	want(t, "tidied, some taps overwritten", impl.PlanText(tidy), strings.Replace(tidyText, "filter 16 -3 256", "filter 0 0 0", 1))
	want(t, "joined, other taps overwritten", impl.PlanText(joined), joinedText)
}

func TestPromise1ChainsOfAnyIntegers(t *testing.T) {
	x := ruledSignal(5)
	for s := range eachOddStep {
		if s.N > 2 && s.N < 255 || s.K > 2 && s.K < 1022 || len(s.Taps) == 2 {
			continue
		}
		isValid := impl.ValidStep(s)
		made, code := impl.RunStep(s, x)
		if (code != impl.ErrInvalid) != isValid || code != impl.OK && len(made) != 0 {
			t.Fatalf("RunStep %v: got %v and code %d", s, made, code)
		}
		p := impl.Plan{Steps: []impl.Step{s}}
		_, code = impl.TidyPlan(p)
		if (code == impl.OK) != isValid || impl.ValidPlan(p) != isValid || !impl.SamePlan(p, p) {
			t.Fatalf("plan of %v: code %d", s, code)
		}
	}
	for _, text := range manySteps() {
		p := planFrom(t, text)
		for _, n := range append(oddIntegers(), 999999, 1000000, 1000001) {
			isLength := n >= 0 && n <= 1000000
			after, one := impl.LengthAfter(p, n)
			needed, two := impl.NeededFor(p, n)
			want(t, fmt.Sprint("lengths are told: ", text, " ", n), [2]bool{one != impl.ErrRange, two != impl.ErrRange}, [2]bool{isLength, isLength})
			want(t, fmt.Sprint("lengths are small: ", text, " ", n), after >= 0 && after <= 1000000 && needed >= 0 && needed <= 1000000, true)
		}
	}
}

func TestPromise1ChainsOfNothing(t *testing.T) {
	for _, taps := range [][]int64{nil, {}} {
		for _, steps := range [][]impl.Step{nil, {}} {
			p := impl.Plan{Steps: steps}
			want(t, "no steps", [2]bool{impl.ValidPlan(p), impl.SamePlan(p, impl.Plan{})}, [2]bool{true, true})
			want(t, "no steps: text", impl.PlanText(p), "")
			for _, other := range [][]impl.Step{nil, {}} {
				joined, code := impl.JoinPlans(p, impl.Plan{Steps: other})
				wantPlan(t, "no steps, joined", joined, code)
			}
			tidy, code := impl.TidyPlan(p)
			wantPlan(t, "no steps, tidied", tidy, code)
			isTimeless, code := impl.IsTimeless(p)
			want(t, "no steps: timeless", isTimeless && code == impl.OK, true)
		}
		s := impl.Step{Kind: impl.StMirror, Taps: taps}
		want(t, "no taps", impl.ValidStep(s), true)
		want(t, "no taps: text", impl.StepText(s), "mirror")
		want(t, "no taps of a filter", impl.ValidStep(impl.Step{Kind: impl.StFilter, Taps: taps}), false)
		p := impl.Plan{Steps: []impl.Step{s}}
		want(t, "no taps: the same", impl.SamePlan(p, planFrom(t, "mirror")) && impl.SamePlan(planFrom(t, "mirror"), p), true)
		twice, code := impl.TidyPlan(impl.Plan{Steps: []impl.Step{s, {Kind: impl.StMirror}}})
		wantPlan(t, "no taps, tidied", twice, code)
	}
	p, code := impl.ReadPlan("")
	wantPlan(t, "ReadPlan of nothing", p, code)
	s, code := impl.ReadStep("")
	want(t, "ReadStep of nothing", [2]int64{s.Kind, code}, [2]int64{0, impl.ErrSyntax})
}

// TestPromise1VeryLongChains has the longest texts, lists and signals.
func TestPromise1VeryLongChains(t *testing.T) {
	many := impl.Plan{Steps: make([]impl.Step, 200000)}
	for i := range many.Steps {
		many.Steps[i] = impl.Step{Kind: impl.StFilter, Taps: []int64{1, 2}}
	}
	taps := impl.Step{Kind: impl.StFilter, Taps: slices.Repeat([]int64{1}, 500000)}
	want(t, "many steps", [3]bool{impl.ValidPlan(many), impl.SamePlan(many, many), impl.SamePlan(many, impl.Plan{Steps: many.Steps[1:]})}, [3]bool{false, true, false})
	want(t, "many steps: text", impl.PlanText(many), "")
	want(t, "many taps", impl.ValidStep(taps), false)
	want(t, "many taps: text", impl.StepText(taps), "")
	wantInvalid(t, many, impl.Plan{})
	wantInvalid(t, impl.Plan{Steps: []impl.Step{taps}}, impl.Plan{})
	other := impl.Plan{Steps: []impl.Step{{Kind: impl.StFilter, Taps: append(slices.Clone(taps.Taps[1:]), 2)}}}
	want(t, "many taps: the same", impl.SamePlan(impl.Plan{Steps: []impl.Step{taps}}, other), false)
	for _, text := range []string{strings.Repeat("narrow\n", 100000), strings.Repeat(" ", 900000), "filter" + strings.Repeat(" 1", 400000), "delay " + strings.Repeat("1", 900000), strings.Repeat("\n", 900000), "delay " + strings.Repeat("0", 900000)} {
		p, code := impl.ReadPlan(text)
		wantNoPlan(t, "ReadPlan of a long text", p, code, impl.ErrRange)
		s, code := impl.ReadStep(text)
		want(t, "ReadStep of a long text", [3]int64{s.Kind, int64(len(s.Taps)), code}, [3]int64{0, 0, impl.ErrSyntax})
	}
	p := planFrom(t, "keep 64", "block 16")
	made, code := impl.RunPlan(p, make([]complex128, 500000))
	wantCode(t, "RunPlan of a long signal", made, code, impl.ErrLimit)
	made, code = impl.RunStep(p.Steps[0], make([]complex128, 500000))
	wantCode(t, "RunStep of a long signal", made, code, impl.ErrLimit)
	narrowMade, code := impl.RunNarrow(p, make([]complex64, 500000))
	wantCode(t, "RunNarrow of a long signal", narrowMade, code, impl.ErrLimit)
	made, code = impl.RunPlan(planFrom(t, slices.Repeat([]string{"stuff 64"}, 8)...), []complex128{1})
	wantCode(t, "RunPlan of a signal that grows", made, code, impl.ErrLimit)
	after, code := impl.LengthAfter(planFrom(t, slices.Repeat([]string{"stuff 64"}, 8)...), 1000000)
	want(t, "LengthAfter that grows", [2]int64{after, code}, [2]int64{0, impl.ErrLimit})
	needed, code := impl.NeededFor(planFrom(t, slices.Repeat([]string{"keep 64"}, 8)...), 1000000)
	want(t, "NeededFor that grows", [2]int64{needed, code}, [2]int64{0, impl.ErrLimit})
}

// TestPromise1ChainsOfAnyTexts reads texts that nobody has written on purpose.
func TestPromise1ChainsOfAnyTexts(t *testing.T) {
	d := &draws{state: 3}
	bytes := "gaindelyfitrukpsbcmwoq 0123456789-+\n\t\x00\xff"
	for range 20000 {
		text := ""
		for range d.next(12) {
			text += string(bytes[d.next(int64(len(bytes)))])
		}
		wantReadAgain(t, text)
	}
	for _, texts := range bothDrawn(300) {
		whole := linesOf(texts)
		for range 10 {
			if len(whole) == 0 {
				continue
			}
			at := d.next(int64(len(whole)))
			wantReadAgain(t, whole[:at]+whole[at+1:])
			wantReadAgain(t, whole[:at]+string(bytes[d.next(int64(len(bytes)))])+whole[at:])
			wantReadAgain(t, whole[:at])
		}
	}
}

// wantReadAgain asks that what is read has the text of which it is read.
func wantReadAgain(t *testing.T, text string) {
	t.Helper()
	s, code := impl.ReadStep(text)
	if code == impl.OK {
		want(t, fmt.Sprintf("ReadStep %q", text), impl.StepText(s), text)
	} else {
		want(t, fmt.Sprintf("ReadStep %q", text), [3]int64{s.Kind, s.N, code}, [3]int64{0, 0, impl.ErrSyntax})
	}
	p, code := impl.ReadPlan(text)
	if code == impl.OK {
		want(t, fmt.Sprintf("ReadPlan %q", text), impl.PlanText(p), text)
	} else {
		wantNoPlan(t, fmt.Sprintf("ReadPlan %q", text), p, code, impl.ErrSyntax)
	}
}

func TestPromise1ChainsOfAnyNumbers(t *testing.T) {
	for _, texts := range bothDrawn(40) {
		p := planFrom(t, texts...)
		for x := range slices.Chunk(anyNumbers(), 97) {
			made, one := impl.RunPlan(p, x)
			again, two := impl.RunPlan(p, x)
			want(t, "RunPlan again: code", one, two)
			wantSignal(t, "RunPlan again", again, impl.OK, made...)
			narrowMade, one := impl.RunNarrow(p, narrowed(x))
			narrowAgain, two := impl.RunNarrow(p, narrowed(x))
			want(t, "RunNarrow again: code", one, two)
			want(t, "RunNarrow again", narrowTextOf(narrowAgain), narrowTextOf(narrowMade))
		}
	}
}
