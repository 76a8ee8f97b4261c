package tests

import (
	"fmt"
	"slices"
	"strings"
	"testing"

	"loop.example/g01155/impl"
)

// What the document tells of engines, made once more: each step makes the whole
// signal at once, and blocks are parts of what it makes. Steps are taken as their
// texts here.

// toldHeld is how many numbers a step holds that has seen so many.
func toldHeld(text string, seen int64) int64 {
	word, numbers := wordsOf(text)
	switch word {
	case "delay":
		return min(numbers[0], seen)
	case "filter":
		return min(int64(len(numbers))-1, seen)
	case "sum":
		return min(numbers[0]-1, seen)
	case "block", "back", "flip":
		return seen % numbers[0]
	}
	return 0
}

// toldWay has the whole signal that each step of a plan gets, and the one that
// the last step makes.
type toldWay struct {
	texts   []string
	plan    impl.Plan
	signals [][]complex128
}

func toldWayOf(t *testing.T, texts []string, x []complex128) toldWay {
	t.Helper()
	way := toldWay{texts: texts, plan: planFrom(t, texts...), signals: [][]complex128{x}}
	for _, text := range texts {
		x = toldRun(text, x)
		way.signals = append(way.signals, x)
	}
	return way
}

// engineAt is the engine behind so many numbers.
func (w toldWay) engineAt(count int64) impl.Engine {
	e := impl.Engine{Plan: w.plan}
	for i, text := range w.texts {
		held := w.signals[i][count-toldHeld(text, count) : count]
		e.Holds = append(e.Holds, impl.Hold{Seen: count, Held: slices.Clone(held)})
		count = toldMade(text, count)
	}
	return e
}

// madeOf is what the last step makes of the numbers from one place up to another
// one; ErrLimit if a signal on the way is too long.
func (w toldWay) madeOf(from, to int64) ([]complex128, int64) {
	for _, text := range w.texts {
		if to-from > 256 {
			break
		}
		from, to = toldMade(text, from), toldMade(text, to)
	}
	if to-from > 256 {
		return nil, impl.ErrLimit
	}
	return w.signals[len(w.texts)][from:to], impl.OK
}

// toldText is the text of an engine whose steps have these texts.
func toldText(texts []string, holds []impl.Hold) string {
	lines := []string{fmt.Sprint("engine ", len(texts))}
	for i, text := range texts {
		lines = append(lines, text, fmt.Sprint("seen ", holds[i].Seen, " ", len(holds[i].Held)))
		for _, x := range holds[i].Held {
			lines = append(lines, impl.BitsText(x))
		}
	}
	return linesOf(lines)
}

// farEngine is an engine that has seen any count of numbers, those that are held
// being some of a list. It is none if a step would have seen too many.
func farEngine(t *testing.T, texts []string, seen int64, pool []complex128) (impl.Engine, bool) {
	t.Helper()
	e := impl.Engine{Plan: planFrom(t, texts...)}
	for i, text := range texts {
		if seen > 1000000000000000 {
			return impl.Engine{}, false
		}
		held := slices.Clone(pool[i : i+int(toldHeld(text, seen))])
		e.Holds = append(e.Holds, impl.Hold{Seen: seen, Held: held})
		seen = toldMade(text, seen)
	}
	return e, true
}

// startOf is the engine of a plan that has to be one.
func startOf(t *testing.T, texts ...string) impl.Engine {
	t.Helper()
	e, code := impl.StartEngine(planFrom(t, texts...))
	want(t, fmt.Sprint("StartEngine ", texts), code, impl.OK)
	return e
}

// pushed is the engine behind a block for which no limit is reached.
func pushed(t *testing.T, e impl.Engine, x ...complex128) impl.Engine {
	t.Helper()
	next, _, code := impl.PushInto(e, x)
	want(t, "PushInto: code", code, impl.OK)
	return next
}

// wantEngine looks at all fields itself.
func wantEngine(t *testing.T, name string, got, expected impl.Engine) {
	t.Helper()
	want(t, name+": plan", impl.PlanText(got.Plan), impl.PlanText(expected.Plan))
	want(t, name+": holds", len(got.Holds), len(expected.Holds))
	for i, h := range expected.Holds {
		if i >= len(got.Holds) {
			break
		}
		want(t, fmt.Sprintf("%s: Seen of %d", name, i), got.Holds[i].Seen, h.Seen)
		wantSignal(t, fmt.Sprintf("%s: Held of %d", name, i), got.Holds[i].Held, impl.OK, h.Held...)
	}
	want(t, name+": the same", impl.SameEngine(got, expected) && impl.SameEngine(expected, got), true)
	want(t, name+": valid", impl.ValidEngine(got), true)
}

// wantNoEngine asks for an error with which no engine is told.
func wantNoEngine(t *testing.T, name string, got impl.Engine, code, expected int64) {
	t.Helper()
	want(t, name, [3]int64{int64(len(got.Plan.Steps)), int64(len(got.Holds)), code}, [3]int64{0, 0, expected})
}

// wantPushed pushes blocks of a signal one after the other.
func wantPushed(t *testing.T, way toldWay, blocks [][]complex128) {
	t.Helper()
	e, code := impl.StartEngine(way.plan)
	name := fmt.Sprintf("%q in blocks of %v", way.texts, lengthsOf(blocks))
	want(t, name+": code of StartEngine", code, impl.OK)
	wantEngine(t, name+": StartEngine", e, way.engineAt(0))
	var all [][]complex128
	count, limit := int64(0), int64(impl.OK)
	for _, block := range blocks {
		expected, expectedCode := way.madeOf(count, count+int64(len(block)))
		next, made, code := impl.PushInto(e, block)
		if expectedCode != impl.OK {
			wantNoEngine(t, name+": PushInto", next, code, expectedCode)
			want(t, name+": made", len(made), 0)
			limit = expectedCode
			break
		}
		count += int64(len(block))
		wantSignal(t, name+": PushInto", made, code, expected...)
		wantEngine(t, name+": PushInto", next, way.engineAt(count))
		e, all = next, append(all, made)
	}
	wantRunBlocks(t, name, way.plan, blocks, all, limit)
}

func wantRunBlocks(t *testing.T, name string, p impl.Plan, blocks, expected [][]complex128, limit int64) {
	t.Helper()
	got, code := impl.RunBlocks(p, blocks)
	switch {
	case len(blocks) > impl.MaxPushes:
		wantCode(t, name+": RunBlocks", got, code, impl.ErrRange)
	case limit != impl.OK:
		wantCode(t, name+": RunBlocks", got, code, limit)
	default:
		wantBlocks(t, name+": RunBlocks", got, code, expected...)
	}
}

func lengthsOf(blocks [][]complex128) []int {
	var list []int
	for _, block := range blocks {
		list = append(list, len(block))
	}
	return list
}

// stepsToCut has steps of all kinds, for signals that are short.
func stepsToCut() []string {
	return strings.Split("gain 3 -5;delay 0;delay 1;delay 2;delay 3;delay 6;delay 7;delay 9;filter 5;filter 16 -3;filter 1 2 3;filter 16 0 0 -16;filter 1 2 3 4 5 6 7 8;"+
		"turn 1 0;turn 3 2;turn 4 1;turn 7 5;turn 1024 1023;keep 1;keep 2;keep 3;keep 5;keep 64;stuff 1;stuff 2;stuff 3;stuff 64;"+
		"block 1;block 2;block 3;block 4;block 7;block 8;back 1;back 2;back 3;back 5;back 16;flip 1;flip 2;flip 3;flip 4;flip 7;flip 8;"+
		"sum 1;sum 2;sum 3;sum 4;sum 7;sum 8;sum 16;narrow;mirror;square", ";")
}

// plansToCut has plans of several steps in which what one step makes comes to the
// next one in blocks of other lengths.
func plansToCut() [][]string {
	return [][]string{
		nil, {"delay 1", "block 2"}, {"block 2", "delay 1"}, {"keep 2", "keep 3"}, {"stuff 3", "keep 2"}, {"keep 2", "stuff 3", "flip 4"},
		{"block 3", "turn 4 1", "sum 2"}, {"flip 2", "flip 3", "flip 2"}, {"sum 2", "sum 3", "delay 2", "filter 16 8"}, {"block 4", "block 2", "back 3"},
		{"turn 5 2", "keep 2", "turn 3 1"}, {"stuff 2", "stuff 2", "block 3", "keep 2"}, {"narrow", "delay 2", "mirror", "square"}, {"flip 4", "stuff 2", "sum 3", "keep 3"},
		{"gain 1 2", "delay 1", "filter 16 1", "turn 3 1", "stuff 2", "block 2", "sum 2", "keep 3"}, {"keep 3", "back 2", "stuff 5", "flip 3", "delay 3", "turn 7 2", "narrow", "mirror"},
	}
}

// inPlans has a plan of one step for each text.
func inPlans(texts []string) [][]string {
	var plans [][]string
	for _, text := range texts {
		plans = append(plans, []string{text})
	}
	return plans
}
