package tests

import (
	"fmt"
	"slices"
	"strings"
	"testing"

	"loop.example/g01155/impl"
)

// engineWithRoom has two steps with the same taps, and two holds with the same
// numbers; numbers stand behind all slices.
func engineWithRoom() impl.Engine {
	p := planWithRoom()
	held := append([]complex128{1, complex(nan, minus0)}, 3, 4i)[:2]
	holds := []impl.Hold{{Seen: 9, Held: held}, {Seen: 9, Held: held[:0]}, {Seen: 9, Held: held}, {Seen: 9}, {Seen: 9, Held: held}, {Seen: 9}}
	return impl.Engine{Plan: p, Holds: append(holds, impl.Hold{Seen: 77, Held: held})[:6]}
}

// engineTextUpTo has all fields of an engine, up to the capacities.
func engineTextUpTo(e impl.Engine) string {
	text := planTextUpTo(e.Plan) + fmt.Sprint(" ", len(e.Holds))
	for _, h := range e.Holds[:cap(e.Holds)] {
		text += fmt.Sprintf(" %d %d %x", h.Seen, len(h.Held), bitsOf(h.Held[:cap(h.Held)]))
	}
	return text
}

// piecesOfEngine are those of its plan, its holds without their numbers, and the
// numbers of each hold.
func piecesOfEngine(e impl.Engine) []piece {
	holds := pieceOf(e.Holds, impl.Hold{Seen: 9})
	holds.text = func() string {
		text := ""
		for _, h := range e.Holds {
			text += fmt.Sprint(h.Seen, len(h.Held), ";")
		}
		return text
	}
	pieces := append(piecesOfPlan(e.Plan), holds)
	for _, h := range e.Holds {
		pieces = append(pieces, pieceOf(h.Held, 9i))
	}
	return pieces
}

func engineCalls() map[string]func(g given) []any {
	engineText := "engine 2\nfilter 1 2 3\nseen 2 2\nnan nan\nnan nan\nfilter 1 2 3\nseen 2 2\nnan nan\nnan nan\n"
	calls := map[string]func(g given) []any{
		"StartEngine":              func(g given) []any { return pack(impl.StartEngine(g.plan)) },
		"StartEngine, no steps":    func(g given) []any { return pack(impl.StartEngine(impl.Plan{Steps: g.plan.Steps[:0]})) },
		"ValidEngine":              func(g given) []any { return pack(impl.ValidEngine(g.engine)) },
		"SameEngine":               func(g given) []any { return pack(impl.SameEngine(g.engine, g.engine)) },
		"PushInto":                 func(g given) []any { return pack(impl.PushInto(g.engine, g.x)) },
		"PushInto, nothing":        func(g given) []any { return pack(impl.PushInto(g.engine, nil)) },
		"PushInto, one":            func(g given) []any { return pack(impl.PushInto(g.engine, g.x[:1])) },
		"PushInto, no steps":       func(g given) []any { return pack(impl.PushInto(impl.Engine{}, g.x)) },
		"PushInto, held numbers":   func(g given) []any { return pack(impl.PushInto(g.engine, g.engine.Holds[0].Held)) },
		"PushNarrowInto":           func(g given) []any { return pack(impl.PushNarrowInto(g.engine, g.narrow)) },
		"PushNarrowInto, no steps": func(g given) []any { return pack(impl.PushNarrowInto(impl.Engine{}, g.narrow)) },
		"RunBlocks":                func(g given) []any { return pack(impl.RunBlocks(g.plan, g.blocks)) },
		"RunBlocks, no steps":      func(g given) []any { return pack(impl.RunBlocks(impl.Plan{}, g.blocks)) },
		"RunBlocks, the same":      func(g given) []any { return pack(impl.RunBlocks(impl.Plan{}, [][]complex128{g.x, g.x})) },
		"CutSignal":                func(g given) []any { return pack(impl.CutSignal(g.x, []int64{1, 0, 3})) },
		"CutSignal, no cuts":       func(g given) []any { return pack(impl.CutSignal(g.x, nil)) },
		"CutSignal, all":           func(g given) []any { return pack(impl.CutSignal(g.x, []int64{int64(len(g.x))})) },
		"GlueBlocks":               func(g given) []any { return pack(impl.GlueBlocks(g.blocks)) },
		"GlueBlocks, one":          func(g given) []any { return pack(impl.GlueBlocks(g.blocks[:1])) },
		"SeenBy":                   func(g given) []any { return pack(impl.SeenBy(g.engine)) },
		"MadeBy":                   func(g given) []any { return pack(impl.MadeBy(g.engine)) },
		"WaitingIn":                func(g given) []any { return pack(impl.WaitingIn(g.engine)) },
		"SkipZeros":                func(g given) []any { return pack(impl.SkipZeros(g.engine, 5)) },
		"SkipZeros, none":          func(g given) []any { return pack(impl.SkipZeros(g.engine, 0)) },
		"EngineText":               func(g given) []any { return pack(impl.EngineText(g.engine)) },
		"ReadEngine":               func(g given) []any { return pack(impl.ReadEngine(engineText)) },
	}
	for _, text := range stepsToCut() {
		s, _ := impl.ReadStep(text)
		e, _ := impl.StartEngine(impl.Plan{Steps: []impl.Step{s}})
		calls["PushInto "+text] = func(g given) []any { return pack(impl.PushInto(e, g.x[:4])) }
		calls["RunBlocks "+text] = func(g given) []any { return pack(impl.RunBlocks(e.Plan, [][]complex128{g.x[:3], g.x[:4]})) }
	}
	return calls
}

func TestPromise1EnginesStayAsTheyAre(t *testing.T) {
	want(t, "the given engine is valid", impl.ValidEngine(engineWithRoom()), true)
	for name, run := range engineCalls() {
		wantStays(t, name, run)
	}
}

// TestPromise1EnginesAreNotShared overwrites what engines have been made of.
func TestPromise1EnginesAreNotShared(t *testing.T) {
	source, x := engineWithRoom(), ruledSignal(7)
	started, one := impl.StartEngine(source.Plan)
	next, made, two := impl.PushInto(source, x)
	want(t, "codes", [2]int64{one, two}, [2]int64{impl.OK, impl.OK})
	startedText, nextText, madeBefore := impl.EngineText(started), impl.EngineText(next), slices.Clone(made)
	for i, s := range source.Plan.Steps {
		clear(s.Taps)
		clear(source.Holds[i].Held)
	}
	clear(source.Plan.Steps)
	clear(source.Holds)
	clear(x)
	want(t, "StartEngine, the source overwritten", impl.EngineText(started), startedText)
	want(t, "PushInto, the source overwritten", impl.EngineText(next), nextText)
	wantSignal(t, "made, the source overwritten", made, impl.OK, madeBefore...)
	clear(made)
	want(t, "PushInto, what was made overwritten", impl.EngineText(next), nextText)
}

func TestPromise1EnginesOfAnyIntegers(t *testing.T) {
	integers := append(oddIntegers(), 999999999999999, 1000000000000000, 1000000000000001, 1<<62, 1<<58, -1<<58)
	for _, text := range append(stepsToCut(), "delay 300", "keep 63") {
		for _, seen := range integers {
			held := int64(0)
			if seen > 0 {
				held = toldHeld(text, seen)
			}
			for _, other := range append(integers, toldMade(text, seen)) {
				e := engineOf(t, []string{text, "mirror"}, []int64{seen, other}, []int64{held, 0})
				isValid := seen >= 0 && seen <= impl.MaxSeen && other == toldMade(text, seen) && other <= impl.MaxSeen
				if impl.ValidEngine(e) != isValid || (impl.EngineText(e) != "") != isValid {
					t.Fatalf("ValidEngine of %s, %d and %d: got %v", text, seen, other, !isValid)
				}
				next, made, code := impl.PushInto(e, []complex128{1, 2})
				if (code != impl.ErrInvalid) != isValid || code != impl.OK && len(next.Holds)+len(made) != 0 {
					t.Fatalf("PushInto %s, %d and %d: code %d", text, seen, other, code)
				}
			}
		}
		e := startOf(t, text)
		for _, count := range integers {
			_, zeros, code := impl.SkipZeros(e, count)
			isCount := count >= 0 && count <= 256
			want(t, fmt.Sprint("SkipZeros ", text, " ", count), code != impl.ErrRange, isCount)
			want(t, fmt.Sprint("SkipZeros ", text, " ", count, ": made"), len(zeros) == 0 || isCount, true)
		}
	}
	for _, first := range integers {
		for _, second := range integers {
			blocks, code := impl.CutSignal(make([]complex128, 256), []int64{first, second})
			isCut := first >= 0 && second >= 0 && first <= 256 && second <= 256-first
			want(t, fmt.Sprint("CutSignal ", first, " ", second), [2]bool{code == impl.OK, len(blocks) != 0}, [2]bool{isCut, isCut})
			if !isCut {
				want(t, fmt.Sprint("CutSignal ", first, " ", second, ": code"), code, impl.ErrRange)
			}
		}
	}
}

func TestPromise1EnginesOfNothing(t *testing.T) {
	for _, none := range [][]complex128{nil, {}} {
		for _, texts := range append(plansToCut(), inPlans(stepsToCut())...) {
			e := startOf(t, texts...)
			for i := range e.Holds {
				e.Holds[i].Held = none
			}
			want(t, "nothing held: valid", impl.ValidEngine(e), true)
			next, made, code := impl.PushInto(e, none)
			wantSignal(t, "PushInto of nothing", made, code)
			wantEngine(t, "PushInto of nothing", next, e)
			next, narrowMade, code := impl.PushNarrowInto(e, nil)
			wantCode(t, "PushNarrowInto of nothing", narrowMade, code, impl.OK)
			wantEngine(t, "PushNarrowInto of nothing", next, e)
		}
	}
	for _, blocks := range [][][]complex128{nil, {}} {
		made, code := impl.RunBlocks(impl.Plan{}, blocks)
		wantBlocks(t, "RunBlocks of nothing", made, code)
		glued, code := impl.GlueBlocks(blocks)
		wantSignal(t, "GlueBlocks of nothing", glued, code)
	}
}

// TestPromise1VeryLongEngines has the longest texts, lists and signals.
func TestPromise1VeryLongEngines(t *testing.T) {
	x := make([]complex128, 900000)
	p := planFrom(t, "delay 300", "keep 64")
	e := startOf(t, "delay 300", "keep 64")
	wantPushCode(t, "a long block", e, 900000, impl.ErrLimit)
	wantInvalidEngine(t, impl.Engine{Plan: p, Holds: []impl.Hold{{Seen: 900000, Held: x}, {Seen: 14063}}})
	wantInvalidEngine(t, impl.Engine{Plan: p, Holds: make([]impl.Hold, 300000)})
	wantInvalidEngine(t, impl.Engine{Plan: impl.Plan{Steps: slices.Repeat([]impl.Step{{Kind: impl.StMirror}}, 300000)}, Holds: make([]impl.Hold, 300000)})
	_, code := impl.StartEngine(impl.Plan{Steps: slices.Repeat([]impl.Step{{Kind: impl.StMirror}}, 900000)})
	want(t, "StartEngine of many steps", code, impl.ErrInvalid)
	made, code := impl.RunBlocks(p, make([][]complex128, 900000))
	wantCode(t, "RunBlocks of many blocks", made, code, impl.ErrRange)
	made, code = impl.RunBlocks(p, [][]complex128{x[:10], x})
	wantCode(t, "RunBlocks of a long block", made, code, impl.ErrLimit)
	blocks, code := impl.CutSignal(x, nil)
	wantCode(t, "CutSignal of a long signal", blocks, code, impl.ErrLimit)
	blocks, code = impl.CutSignal(nil, make([]int64, 900000))
	wantCode(t, "CutSignal at many places", blocks, code, impl.ErrRange)
	glued, code := impl.GlueBlocks(make([][]complex128, 900000))
	wantCode(t, "GlueBlocks of many blocks", glued, code, impl.ErrRange)
	glued, code = impl.GlueBlocks([][]complex128{x, x[:1]})
	wantCode(t, "GlueBlocks of a long block", glued, code, impl.ErrLimit)
	for _, text := range []string{strings.Repeat("nan nan\n", 100000), strings.Repeat(" ", 900000), "engine " + strings.Repeat("1", 900000), strings.Repeat("\n", 900000)} {
		e, code := impl.ReadEngine(text)
		wantNoEngine(t, "ReadEngine of a long text", e, code, impl.ErrRange)
	}
	for _, text := range []string{strings.Repeat("seen 1 1\nnan nan\n", 20000), "engine 1\nfilter" + strings.Repeat(" 1", 190000), "seen " + strings.Repeat("1", 390000), strings.Repeat(" ", 400000), "engine 1\ndelay 300\nseen 9 9\n" + strings.Repeat("nan nan\n", 49000)} {
		e, code := impl.ReadEngine(text)
		wantNoEngine(t, "ReadEngine of a text of none", e, code, impl.ErrSyntax)
	}
}

// TestPromise1EnginesOfAnyTexts reads texts that nobody has written on purpose.
func TestPromise1EnginesOfAnyTexts(t *testing.T) {
	d := &draws{state: 61}
	lines := []string{"engine 0", "engine 1", "engine 2", "delay 1", "mirror", "keep 2", "block 2", "seen 0 0", "seen 1 0", "seen 1 1", "seen 2 1", "nan nan", "", "x", "seen", "seen x"}
	read := 0
	for range 60000 {
		text := lines[d.next(3)] + "\n"
		for range d.next(6) {
			text += lines[d.next(int64(len(lines)))] + "\n"
		}
		wantReadOnlyIfWritten(t, text)
		if _, code := impl.ReadEngine(text); code == impl.OK && len(text) > 9 {
			read++
		}
	}
	want(t, "some are texts of engines", read > 50, true)
}

// TestPromise1EnginesOfAnyNumbers pushes the same again.
func TestPromise1EnginesOfAnyNumbers(t *testing.T) {
	for _, texts := range append(bothDrawn(30), plansToCut()...) {
		e := startOf(t, texts...)
		for x := range slices.Chunk(anyNumbers(), 97) {
			next, made, one := impl.PushInto(e, x)
			again, madeAgain, two := impl.PushInto(e, x)
			want(t, "PushInto again: code", one, two)
			wantSignal(t, "PushInto again", madeAgain, impl.OK, made...)
			want(t, "PushInto again: the engine", impl.EngineText(again), impl.EngineText(next))
			if one == impl.OK {
				e = next
			}
		}
	}
}

func TestPromise1ConstantsOfEngines(t *testing.T) {
	want(t, "limits", [3]int64{impl.MaxSeen, impl.MaxPushes, impl.MaxEngineText}, [3]int64{1000000000000000, 64, 400000})
}
