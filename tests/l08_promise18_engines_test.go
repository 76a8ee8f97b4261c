package tests

import (
	"fmt"
	"math"
	"slices"
	"strings"
	"testing"

	"loop.example/g01155/impl"
)

// TestPromise18HeldNumbers has fewer numbers than the table says, just as many,
// and more.
func TestPromise18HeldNumbers(t *testing.T) {
	for _, each := range []struct {
		text string
		held []int // behind 0, 1, 2 and more numbers
	}{
		{"delay 0", []int{0, 0, 0}}, {"delay 1", []int{0, 1, 1, 1}}, {"delay 2", []int{0, 1, 2, 2, 2}}, {"delay 3", []int{0, 1, 2, 3, 3, 3}},
		{"filter 16", []int{0, 0, 0}}, {"filter 0 0", []int{0, 1, 1, 1}}, {"filter 1 2 3", []int{0, 1, 2, 2, 2}}, {"filter 1 2 3 4 5 6 7 8", []int{0, 1, 2, 3, 4, 5, 6, 7, 7, 7}},
		{"sum 1", []int{0, 0, 0}}, {"sum 2", []int{0, 1, 1, 1}}, {"sum 3", []int{0, 1, 2, 2, 2}}, {"sum 16", []int{0, 1, 2, 3, 4, 5, 6, 7, 8, 9, 10, 11, 12, 13, 14, 15, 15, 15}},
		{"block 1", []int{0, 0, 0}}, {"block 2", []int{0, 1, 0, 1, 0}}, {"block 3", []int{0, 1, 2, 0, 1, 2, 0, 1}}, {"block 16", []int{0, 1, 2, 3, 4, 5, 6, 7, 8, 9, 10, 11, 12, 13, 14, 15, 0, 1}},
		{"back 1", []int{0, 0, 0}}, {"back 2", []int{0, 1, 0, 1, 0}}, {"back 4", []int{0, 1, 2, 3, 0, 1, 2, 3, 0}}, {"flip 1", []int{0, 0, 0}}, {"flip 5", []int{0, 1, 2, 3, 4, 0, 1}},
		{"gain 16 0", []int{0, 0, 0}}, {"turn 7 3", []int{0, 0, 0}}, {"keep 1", []int{0, 0, 0}}, {"keep 4", []int{0, 0, 0, 0, 0, 0}}, {"stuff 3", []int{0, 0, 0}}, {"narrow", []int{0, 0, 0}}, {"mirror", []int{0, 0, 0}}, {"square", []int{0, 0, 0}},
	} {
		x := ruledSignal(40)
		e := startOf(t, each.text)
		for count, held := range each.held {
			name := fmt.Sprint(each.text, " behind ", count)
			expected := []impl.Hold{{Seen: int64(count), Held: x[count-held : count]}}
			wantEngine(t, name, e, impl.Engine{Plan: e.Plan, Holds: expected})
			at := pushed(t, startOf(t, each.text), x[:count]...)
			wantEngine(t, name+", at once", at, impl.Engine{Plan: e.Plan, Holds: expected})
			waiting, code := impl.WaitingIn(e)
			want(t, name+": WaitingIn", [2]int64{waiting, code}, [2]int64{int64(held), impl.OK})
			e = pushed(t, e, x[count])
		}
	}
}

// TestPromise18LongDelays has the greatest number that can be held.
func TestPromise18LongDelays(t *testing.T) {
	x := slices.Concat(ruledSignal(256), drawnNumbers(256))
	for _, n := range []int{255, 256, 257, 299, 300} {
		way := toldWayOf(t, []string{fmt.Sprint("delay ", n)}, x)
		for _, size := range []int{1, 37, 100, 150, 255, 256} {
			wantPushed(t, way, slices.Collect(slices.Chunk(x, size)))
		}
	}
}

// badHolds changes one hold of a valid engine so that it is valid no more.
func badHolds(e impl.Engine, at int) []impl.Engine {
	with := func(change func(h *impl.Hold)) impl.Engine {
		holds := slices.Clone(e.Holds)
		holds[at].Held = slices.Clone(holds[at].Held)
		change(&holds[at])
		return impl.Engine{Plan: e.Plan, Holds: holds}
	}
	list := []impl.Engine{
		with(func(h *impl.Hold) { h.Held = append(h.Held, 1) }),
		with(func(h *impl.Hold) { h.Held = append(h.Held, make([]complex128, 300)...) }),
		with(func(h *impl.Hold) { h.Seen = -1 }),
		with(func(h *impl.Hold) { h.Seen = -h.Seen - 1 }),
		with(func(h *impl.Hold) { h.Seen = 1000000000000001 }),
		with(func(h *impl.Hold) { h.Seen = math.MaxInt64 }),
		with(func(h *impl.Hold) { h.Seen = math.MinInt64 }),
	}
	if len(e.Holds[at].Held) > 0 {
		list = append(list,
			with(func(h *impl.Hold) { h.Held = h.Held[1:] }),
			with(func(h *impl.Hold) { h.Held = nil }),
			with(func(h *impl.Hold) { h.Seen = 0 }))
	}
	if at > 0 {
		list = append(list, with(func(h *impl.Hold) { h.Seen += 1000 * 720720 }))
		if e.Holds[at].Seen > 0 {
			list = append(list, with(func(h *impl.Hold) { h.Seen-- }), with(func(h *impl.Hold) { h.Seen = 0 }))
		}
	}
	return list
}

// wantInvalidEngine asks all functions, also where something else is wrong too.
func wantInvalidEngine(t *testing.T, e impl.Engine) {
	t.Helper()
	name := fmt.Sprintf("an invalid engine of %d steps", len(e.Plan.Steps))
	want(t, name+": ValidEngine", impl.ValidEngine(e), false)
	want(t, name+": EngineText", impl.EngineText(e), "")
	for _, count := range []int{0, 1, 256, 257} {
		next, made, code := impl.PushInto(e, make([]complex128, count))
		wantNoEngine(t, name+": PushInto", next, code, impl.ErrInvalid)
		next, narrowMade, code := impl.PushNarrowInto(e, make([]complex64, count))
		wantNoEngine(t, name+": PushNarrowInto", next, code, impl.ErrInvalid)
		next, zeros, code := impl.SkipZeros(e, int64(count))
		wantNoEngine(t, name+": SkipZeros", next, code, impl.ErrInvalid)
		want(t, name+": made", [3]int{len(made), len(narrowMade), len(zeros)}, [3]int{})
	}
	next, _, code := impl.SkipZeros(e, -1)
	wantNoEngine(t, name+": SkipZeros", next, code, impl.ErrInvalid)
	seen, one := impl.SeenBy(e)
	made, two := impl.MadeBy(e)
	waiting, three := impl.WaitingIn(e)
	want(t, name+": counts", [3]int64{seen, made, waiting}, [3]int64{})
	want(t, name+": codes", [3]int64{one, two, three}, [3]int64{impl.ErrInvalid, impl.ErrInvalid, impl.ErrInvalid})
	want(t, name+": SameEngine", impl.SameEngine(e, e), true)
}

// someEngines are of no step, of one of each kind, and of several, behind any
// count of numbers.
func someEngines(t *testing.T) []impl.Engine {
	t.Helper()
	var list []impl.Engine
	plans := append(plansToCut(), slices.Repeat([]string{"sum 3"}, 8))
	for _, text := range stepsToCut() {
		plans = append(plans, []string{text}, []string{"narrow", text, "delay 2"})
	}
	for i, texts := range plans {
		way := toldWayOf(t, texts, ruledSignal(40))
		for _, count := range []int64{0, 1, int64(2 + i%9), 29} {
			list = append(list, way.engineAt(count))
		}
	}
	return list
}

func TestPromise18ValidEngines(t *testing.T) {
	for _, e := range someEngines(t) {
		name := fmt.Sprintf("%q", impl.EngineText(e))
		want(t, name, impl.ValidEngine(e), true)
		for at := range e.Holds {
			for _, bad := range badHolds(e, at) {
				wantInvalidEngine(t, bad)
			}
			wantInvalidEngine(t, impl.Engine{Plan: e.Plan, Holds: slices.Delete(slices.Clone(e.Holds), at, at+1)})
			wantInvalidEngine(t, impl.Engine{Plan: impl.Plan{Steps: slices.Delete(slices.Clone(e.Plan.Steps), at, at+1)}, Holds: e.Holds})
		}
		wantInvalidEngine(t, impl.Engine{Plan: e.Plan, Holds: append(slices.Clone(e.Holds), impl.Hold{})})
		if len(e.Holds) > 0 {
			wantInvalidEngine(t, impl.Engine{Plan: e.Plan})
			wantInvalidEngine(t, impl.Engine{Holds: e.Holds})
		}
	}
}

// TestPromise18EnginesOfInvalidPlans has holds that would fit.
func TestPromise18EnginesOfInvalidPlans(t *testing.T) {
	many := impl.Plan{Steps: slices.Repeat([]impl.Step{{Kind: impl.StNarrow}}, 9)}
	plans := []impl.Plan{many}
	for _, s := range invalidSteps() {
		plans = append(plans, impl.Plan{Steps: []impl.Step{s}}, impl.Plan{Steps: []impl.Step{{Kind: impl.StMirror}, s}})
	}
	for _, p := range plans {
		e, code := impl.StartEngine(p)
		wantNoEngine(t, "StartEngine", e, code, impl.ErrInvalid)
		wantInvalidEngine(t, impl.Engine{Plan: p, Holds: make([]impl.Hold, len(p.Steps))})
		wantInvalidEngine(t, impl.Engine{Plan: p})
		for _, blocks := range [][][]complex128{nil, {{1, 2}}, {make([]complex128, 257)}, make([][]complex128, 65)} {
			got, code := impl.RunBlocks(p, blocks)
			wantCode(t, "RunBlocks", got, code, impl.ErrInvalid)
		}
	}
}

// engineOf has steps with these texts, and holds of zeros.
func engineOf(t *testing.T, texts []string, seen, held []int64) impl.Engine {
	t.Helper()
	e := impl.Engine{Plan: planFrom(t, texts...)}
	for i := range texts {
		e.Holds = append(e.Holds, impl.Hold{Seen: seen[i], Held: make([]complex128, held[i])})
	}
	return e
}

// TestPromise18SeenNumbers has the greatest counts, and those of further steps.
func TestPromise18SeenNumbers(t *testing.T) {
	const most = 1000000000000000
	for _, each := range []struct {
		texts      []string
		seen, held []int64
		want       bool
	}{
		{[]string{"mirror"}, []int64{0}, []int64{0}, true}, {[]string{"mirror"}, []int64{most}, []int64{0}, true}, {[]string{"mirror"}, []int64{most + 1}, []int64{0}, false}, {[]string{"mirror"}, []int64{-1}, []int64{0}, false},
		{[]string{"mirror"}, []int64{most - 1}, []int64{0}, true}, {[]string{"mirror"}, []int64{most}, []int64{1}, false}, {[]string{"mirror"}, []int64{0}, []int64{1}, false},
		{[]string{"delay 5"}, []int64{most}, []int64{5}, true}, {[]string{"delay 5"}, []int64{most}, []int64{4}, false}, {[]string{"delay 5"}, []int64{most}, []int64{6}, false}, {[]string{"delay 5"}, []int64{most + 1}, []int64{5}, false},
		{[]string{"delay 5"}, []int64{4}, []int64{4}, true}, {[]string{"delay 5"}, []int64{4}, []int64{5}, false}, {[]string{"delay 5"}, []int64{5}, []int64{5}, true}, {[]string{"delay 5"}, []int64{5}, []int64{4}, false}, {[]string{"delay 5"}, []int64{6}, []int64{5}, true}, {[]string{"delay 5"}, []int64{6}, []int64{6}, false},
		{[]string{"block 7"}, []int64{most}, []int64{most % 7}, true}, {[]string{"block 7"}, []int64{most}, []int64{most%7 + 1}, false}, {[]string{"block 7"}, []int64{7}, []int64{0}, true}, {[]string{"block 7"}, []int64{7}, []int64{7}, false}, {[]string{"block 7"}, []int64{6}, []int64{6}, true},
		{[]string{"block 7"}, []int64{-1}, []int64{0}, false}, {[]string{"delay 5"}, []int64{-1}, []int64{0}, false}, {[]string{"stuff 64"}, []int64{most}, []int64{0}, true}, {[]string{"stuff 64"}, []int64{most + 1}, []int64{0}, false},
		{[]string{"mirror", "mirror"}, []int64{most, most}, []int64{0, 0}, true}, {[]string{"mirror", "mirror"}, []int64{most, most - 1}, []int64{0, 0}, false}, {[]string{"mirror", "mirror"}, []int64{most - 1, most}, []int64{0, 0}, false}, {[]string{"mirror", "mirror"}, []int64{0, 1}, []int64{0, 0}, false}, {[]string{"mirror", "mirror"}, []int64{1, 0}, []int64{0, 0}, false},
		{[]string{"stuff 2", "mirror"}, []int64{most / 2, most}, []int64{0, 0}, true}, {[]string{"stuff 2", "mirror"}, []int64{most/2 + 1, most + 2}, []int64{0, 0}, false}, {[]string{"stuff 2", "mirror"}, []int64{most/2 + 1, most}, []int64{0, 0}, false}, {[]string{"stuff 2", "keep 2"}, []int64{most, 2 * most}, []int64{0, 0}, false},
		{[]string{"stuff 64", "mirror"}, []int64{most, 64 * most}, []int64{0, 0}, false}, {[]string{"stuff 64", "keep 64", "mirror"}, []int64{most, 64 * most, most}, []int64{0, 0, 0}, false}, {[]string{"stuff 64", "stuff 64", "stuff 64"}, []int64{most, 64 * most, -4611686018427387904}, []int64{0, 0, 0}, false},
		{[]string{"keep 2", "mirror"}, []int64{5, 3}, []int64{0, 0}, true}, {[]string{"keep 2", "mirror"}, []int64{5, 2}, []int64{0, 0}, false}, {[]string{"keep 2", "mirror"}, []int64{4, 2}, []int64{0, 0}, true}, {[]string{"keep 2", "mirror"}, []int64{most, most / 2}, []int64{0, 0}, true}, {[]string{"keep 64", "delay 2"}, []int64{most, most / 64}, []int64{0, 2}, true},
		{[]string{"block 4", "sum 3"}, []int64{7, 4}, []int64{3, 2}, true}, {[]string{"block 4", "sum 3"}, []int64{7, 7}, []int64{3, 2}, false}, {[]string{"block 4", "sum 3"}, []int64{7, 4}, []int64{3, 3}, false}, {[]string{"block 4", "sum 3"}, []int64{3, 0}, []int64{3, 0}, true}, {[]string{"block 4", "sum 3"}, []int64{3, 3}, []int64{3, 2}, false},
		{[]string{"delay 2", "mirror"}, []int64{5, 3}, []int64{2, 0}, false}, {[]string{"delay 2", "mirror"}, []int64{5, 5}, []int64{2, 0}, true}, {[]string{"sum 2", "mirror"}, []int64{5, 5}, []int64{1, 0}, true}, {[]string{"sum 2", "mirror"}, []int64{5, 4}, []int64{1, 0}, false},
	} {
		e := engineOf(t, each.texts, each.seen, each.held)
		want(t, fmt.Sprint("ValidEngine ", each), impl.ValidEngine(e), each.want)
		want(t, fmt.Sprint("EngineText ", each, ": there is one"), impl.EngineText(e) != "", each.want)
		if !each.want {
			wantInvalidEngine(t, e)
		}
	}
}

// wantPushCode pushes so many numbers in all ways. With an error, nothing else is
// told.
func wantPushCode(t *testing.T, name string, e impl.Engine, count int, expected int64) {
	t.Helper()
	next, made, code := impl.PushInto(e, make([]complex128, count))
	wantToldWithCode(t, name+": PushInto", next, len(made), code, expected)
	next, narrowMade, code := impl.PushNarrowInto(e, make([]complex64, count))
	wantToldWithCode(t, name+": PushNarrowInto", next, len(narrowMade), code, expected)
	if count > impl.MaxSignal {
		expected = impl.ErrRange
	}
	next, zeros, code := impl.SkipZeros(e, int64(count))
	wantToldWithCode(t, name+": SkipZeros", next, len(zeros), code, expected)
}

func wantToldWithCode(t *testing.T, name string, next impl.Engine, made int, code, expected int64) {
	t.Helper()
	if expected == impl.OK {
		want(t, name+": code", code, expected)
		return
	}
	wantNoEngine(t, name, next, code, expected)
	want(t, name+": made", made, 0)
}

// TestPromise18Limits reaches them just so, and goes beyond by one.
func TestPromise18Limits(t *testing.T) {
	const most = 1000000000000000
	for _, each := range []struct {
		texts []string
		seen  int64
		count int
		want  int64
	}{
		{nil, 0, 256, impl.OK}, {nil, 0, 257, impl.ErrLimit}, {nil, 0, 100000, impl.ErrLimit}, {nil, 0, 0, impl.OK},
		{[]string{"keep 64"}, 0, 256, impl.OK}, {[]string{"keep 64"}, 0, 257, impl.ErrLimit}, {[]string{"block 16"}, 0, 257, impl.ErrLimit}, {[]string{"block 16"}, 5, 257, impl.ErrLimit}, {[]string{"delay 300"}, 7, 256, impl.OK}, {[]string{"delay 300"}, 7, 257, impl.ErrLimit}, {[]string{"sum 16"}, 300, 256, impl.OK}, {[]string{"sum 16"}, 300, 257, impl.ErrLimit},
		{[]string{"block 16"}, 15, 256, impl.OK}, {[]string{"flip 16"}, 15, 242, impl.OK}, {[]string{"flip 3"}, 2, 255, impl.OK}, {[]string{"flip 3"}, 2, 256, impl.ErrLimit}, {[]string{"flip 3"}, 1, 256, impl.OK}, {[]string{"back 10"}, 9, 250, impl.OK}, {[]string{"back 10"}, 9, 251, impl.ErrLimit}, {[]string{"block 10"}, 9, 256, impl.ErrLimit}, {[]string{"flip 5"}, 4, 256, impl.ErrLimit}, {[]string{"flip 5"}, 4, 255, impl.OK}, {[]string{"back 13"}, 9, 250, impl.OK}, {[]string{"back 13"}, 9, 251, impl.ErrLimit}, {[]string{"back 13"}, 8, 251, impl.OK},
		{[]string{"stuff 64"}, 0, 4, impl.OK}, {[]string{"stuff 64"}, 0, 5, impl.ErrLimit}, {[]string{"stuff 2"}, 77, 128, impl.OK}, {[]string{"stuff 2"}, 77, 129, impl.ErrLimit}, {[]string{"stuff 1"}, 77, 256, impl.OK},
		{[]string{"stuff 2", "keep 2"}, 0, 128, impl.OK}, {[]string{"stuff 2", "keep 2"}, 0, 129, impl.ErrLimit}, {[]string{"keep 2", "stuff 2"}, 0, 256, impl.OK}, {[]string{"keep 2", "stuff 2"}, 1, 256, impl.OK}, {[]string{"keep 3", "stuff 3"}, 0, 256, impl.ErrLimit}, {[]string{"keep 3", "stuff 3"}, 1, 256, impl.OK}, {[]string{"keep 3", "stuff 3"}, 2, 256, impl.OK}, {[]string{"keep 3", "stuff 3"}, 3, 256, impl.ErrLimit},
		{[]string{"block 16", "stuff 16"}, 0, 31, impl.OK}, {[]string{"block 16", "stuff 16"}, 15, 16, impl.OK}, {[]string{"block 16", "stuff 16"}, 15, 17, impl.ErrLimit}, {[]string{"block 16", "stuff 16"}, 1, 31, impl.ErrLimit}, {[]string{"block 16", "stuff 16"}, 1, 30, impl.OK},
		{[]string{"stuff 3", "block 16"}, 0, 85, impl.OK}, {[]string{"stuff 3", "block 16"}, 0, 86, impl.ErrLimit}, {[]string{"stuff 3", "block 16"}, 5, 86, impl.ErrLimit}, {[]string{"stuff 5", "block 16"}, 3, 51, impl.OK}, {[]string{"stuff 5", "block 13"}, 5, 49, impl.OK}, {[]string{"stuff 5", "block 13"}, 5, 50, impl.ErrLimit}, {[]string{"stuff 3", "block 13", "mirror"}, 8, 82, impl.OK}, {[]string{"stuff 3", "block 13", "mirror"}, 8, 83, impl.ErrLimit}, {[]string{"stuff 3", "block 13", "keep 13"}, 8, 83, impl.ErrLimit},
		{slices.Repeat([]string{"stuff 64"}, 4), 1, 0, impl.OK}, {slices.Repeat([]string{"stuff 64"}, 4), 0, 1, impl.ErrLimit}, {[]string{"stuff 64", "stuff 4"}, 0, 1, impl.OK}, {[]string{"stuff 64", "stuff 5"}, 0, 1, impl.ErrLimit}, {[]string{"stuff 64", "stuff 5", "keep 5"}, 0, 1, impl.ErrLimit},
		{[]string{"mirror"}, most, 0, impl.OK}, {[]string{"mirror"}, most, 1, impl.ErrLimit}, {[]string{"mirror"}, most - 256, 256, impl.OK}, {[]string{"mirror"}, most - 255, 256, impl.ErrLimit}, {[]string{"mirror"}, most - 255, 255, impl.OK}, {[]string{"keep 64"}, most - 1, 1, impl.OK}, {[]string{"keep 64"}, most - 1, 2, impl.ErrLimit}, {[]string{"block 16"}, most - 1, 2, impl.ErrLimit}, {[]string{"delay 300"}, most - 7, 7, impl.OK}, {[]string{"delay 300"}, most - 7, 8, impl.ErrLimit},
		{[]string{"stuff 2"}, most - 3, 3, impl.OK}, {[]string{"stuff 64"}, most - 3, 3, impl.OK}, {[]string{"stuff 64"}, most, 0, impl.OK}, {[]string{"stuff 64"}, most, 1, impl.ErrLimit},
		{[]string{"stuff 2", "mirror"}, most/2 - 5, 5, impl.OK}, {[]string{"stuff 2", "mirror"}, most/2 - 5, 6, impl.ErrLimit}, {[]string{"stuff 2", "mirror"}, most / 2, 0, impl.OK}, {[]string{"stuff 2", "mirror"}, most / 2, 1, impl.ErrLimit}, {[]string{"stuff 2", "keep 2", "mirror"}, most / 2, 1, impl.ErrLimit},
		{[]string{"keep 2", "stuff 64", "mirror"}, most/32 - 2, 2, impl.OK}, {[]string{"keep 2", "stuff 64", "mirror"}, most / 32, 1, impl.ErrLimit}, {[]string{"block 16", "stuff 2", "mirror"}, most/2 + 1, 6, impl.OK}, {[]string{"stuff 3", "block 16", "stuff 3", "mirror"}, most / 9, 0, impl.OK}, {[]string{"stuff 3", "block 16", "stuff 3", "mirror"}, most / 9, 1, impl.OK}, {[]string{"stuff 3", "block 16", "stuff 3", "mirror"}, most / 9, 6, impl.ErrLimit},
	} {
		name := fmt.Sprint("a push ", each)
		e, ok := farEngine(t, each.texts, each.seen, ruledSignal(400))
		want(t, name+": there is an engine", ok, true)
		wantPushCode(t, name, e, each.count, each.want)
	}
}

// TestPromise18LimitsOfManyEngines holds limits against the counts of each step.
func TestPromise18LimitsOfManyEngines(t *testing.T) {
	d := &draws{state: 31}
	counts := map[int64]int{}
	for _, texts := range bothDrawn(300) {
		for _, most := range []int64{400, 1 << 40, 900000000000000} {
			e, ok := farEngine(t, texts, farSeen(d, most), ruledSignal(400))
			if !ok {
				continue
			}
			for _, count := range []int64{0, 1, 2, 5, 30, 64, 128, 255, 256, 257} {
				expected := toldLimit(e, texts, count)
				counts[expected]++
				wantPushCode(t, fmt.Sprintf("%d numbers to %q", count, impl.EngineText(e)), e, int(count), expected)
			}
		}
	}
	want(t, "there are both", counts[impl.OK] > 3000 && counts[impl.ErrLimit] > 1000, true)
}

// toldLimit looks at what each step gets, and at the result.
func toldLimit(e impl.Engine, texts []string, count int64) int64 {
	for i, text := range texts {
		seen := e.Holds[i].Seen
		if count > 256 || seen+count > 1000000000000000 {
			return impl.ErrLimit
		}
		count = toldMade(text, seen+count) - toldMade(text, seen)
	}
	if count > 256 {
		return impl.ErrLimit
	}
	return impl.OK
}

// TestPromise18TurnsKeptAndStuffedGoOn has places for which it matters how many
// numbers have come before the block.
func TestPromise18TurnsKeptAndStuffedGoOn(t *testing.T) {
	const most = 1000000000000000
	x := drawnNumbers(20)
	for _, seen := range []int64{0, 1, 2, 3, 6, 7, 63, 64, 65, 1000, 1023, 1024, most/3 + 1, most - 21, most - 20} {
		for _, text := range []string{"turn 1 0", "turn 2 1", "turn 3 2", "turn 4 1", "turn 7 5", "turn 1000 999", "turn 1023 1022", "turn 1024 1023", "turn 1024 1", "turn 997 501"} {
			_, numbers := wordsOf(text)
			var expected []complex128
			for i, each := range x {
				rest := (seen + int64(i)) % numbers[0] * numbers[1] % numbers[0]
				expected = append(expected, toldProduct(each, toldTurn(numbers[0], rest)))
			}
			wantGoesOn(t, text, seen, x, expected)
		}
		for _, n := range []int64{1, 2, 3, 5, 7, 20, 63, 64} {
			var kept, stuffed []complex128
			for i, each := range x {
				if (seen+int64(i))%n == 0 {
					kept = append(kept, each)
				}
				stuffed = append(append(stuffed, each), make([]complex128, n-1)...)
			}
			wantGoesOn(t, fmt.Sprint("keep ", n), seen, x, kept)
			if len(stuffed) <= impl.MaxSignal {
				wantGoesOn(t, fmt.Sprint("stuff ", n), seen, x, stuffed)
			}
		}
	}
}

// wantGoesOn pushes a block to an engine of a step that holds nothing.
func wantGoesOn(t *testing.T, text string, seen int64, x, expected []complex128) {
	t.Helper()
	e := engineOf(t, []string{text}, []int64{seen}, []int64{0})
	name := fmt.Sprint(text, " behind ", seen)
	next, made, code := impl.PushInto(e, x)
	wantSignal(t, name, made, code, expected...)
	seenNow, code := impl.SeenBy(next)
	want(t, name+": SeenBy", [2]int64{seenNow, code}, [2]int64{seen + int64(len(x)), impl.OK})
	madeNow, code := impl.MadeBy(next)
	want(t, name+": MadeBy", [2]int64{madeNow, code}, [2]int64{toldMade(text, seen) + int64(len(expected)), impl.OK})
}

// TestPromise18HeldNumbersAreUsed gives engines holds that no function has made.
func TestPromise18HeldNumbersAreUsed(t *testing.T) {
	z := complex(minus0, minus0)
	for _, each := range []struct {
		text             string
		seen             int64
		held, x, made, h []complex128
	}{
		{"delay 2", 9, []complex128{z, 5i}, []complex128{1, 2, 3}, []complex128{z, 5i, 1}, []complex128{2, 3}},
		{"delay 2", 9, []complex128{7, 8}, []complex128{1}, []complex128{7}, []complex128{8, 1}},
		{"delay 3", 2, []complex128{7, 8}, []complex128{1, 2}, []complex128{0, 7}, []complex128{8, 1, 2}},
		{"delay 3", 2, []complex128{7, 8}, nil, nil, []complex128{7, 8}},
		{"filter 16 32", 5, []complex128{3}, []complex128{1, 2}, []complex128{7, 4}, []complex128{2}},
		{"filter 16 16 16", 5, []complex128{1, complex(0x1p53, 0)}, []complex128{1}, []complex128{complex(0x1p53, 0)}, []complex128{complex(0x1p53, 0), 1}},
		{"sum 3", 5, []complex128{1, complex(0x1p53, 0)}, []complex128{1}, []complex128{complex(0x1p53, 0)}, []complex128{complex(0x1p53, 0), 1}},
		{"sum 3", 5, []complex128{complex(0x1p53, 0), 1}, []complex128{1, z}, []complex128{complex(0x1p53, 0), 2}, []complex128{1, z}},
		{"sum 2", 5, []complex128{z}, []complex128{z, complex(inf, nan)}, []complex128{z, complex(inf, nan)}, []complex128{complex(inf, nan)}},
		{"sum 4", 2, []complex128{1, 2}, []complex128{3}, []complex128{6}, []complex128{1, 2, 3}},
		{"block 2", 11, []complex128{5}, []complex128{3, 1, 1, 7}, []complex128{8, 2, 2, 0}, []complex128{7}},
		{"block 4", 10, []complex128{5, 6}, []complex128{1}, nil, []complex128{5, 6, 1}},
		{"back 2", 11, []complex128{5}, []complex128{3}, []complex128{complex(4, minus0), 1}, nil},
		{"flip 3", 2, []complex128{z, 5i}, []complex128{1, 2, 3}, []complex128{1, 5i, z}, []complex128{2, 3}},
		{"flip 3", 7, []complex128{complex(nan, inf)}, []complex128{1, 2}, []complex128{2, 1, complex(nan, inf)}, nil},
	} {
		name := fmt.Sprint(each.text, " behind ", each.seen, " with ", each.held)
		e := impl.Engine{Plan: planFrom(t, each.text), Holds: []impl.Hold{{Seen: each.seen, Held: each.held}}}
		next, made, code := impl.PushInto(e, each.x)
		wantSignal(t, name, made, code, each.made...)
		wantEngine(t, name, next, impl.Engine{Plan: e.Plan, Holds: []impl.Hold{{Seen: each.seen + int64(len(each.x)), Held: each.h}}})
	}
}

func TestPromise18Counts(t *testing.T) {
	for _, texts := range append(plansToCut(), bothDrawn(60)...) {
		e := startOf(t, texts...)
		seen, made := int64(0), int64(0)
		for i, count := range []int{0, 1, 5, 0, 16, 3, 2, 40} {
			if i > 0 {
				next, more, code := impl.PushInto(e, ruledSignal(count))
				if code != impl.OK {
					break
				}
				e, seen, made = next, seen+int64(count), made+int64(len(more))
			}
			name := fmt.Sprint(texts, " behind ", seen)
			gotSeen, one := impl.SeenBy(e)
			gotMade, two := impl.MadeBy(e)
			expected := [4]int64{seen, impl.OK, made, impl.OK}
			if len(texts) == 0 {
				expected = [4]int64{0, impl.ErrState, 0, impl.ErrState}
			}
			want(t, name+": SeenBy and MadeBy", [4]int64{gotSeen, one, gotMade, two}, expected)
			waiting, code := impl.WaitingIn(e)
			held := int64(0)
			for _, h := range e.Holds {
				held += int64(len(h.Held))
			}
			want(t, name+": WaitingIn", [2]int64{waiting, code}, [2]int64{held, impl.OK})
		}
	}
	e := engineOf(t, []string{"stuff 64"}, []int64{1000000000000000}, []int64{0})
	made, code := impl.MadeBy(e)
	want(t, "MadeBy beyond MaxSeen", [2]int64{made, code}, [2]int64{64000000000000000, impl.OK})
}

// TestPromise18EnginesAreValues pushes to the same engine again and again.
func TestPromise18EnginesAreValues(t *testing.T) {
	x, y := ruledSignal(9), drawnNumbers(11)
	for _, texts := range plansToCut() {
		e := pushed(t, startOf(t, texts...), x[:4]...)
		before := impl.EngineText(e)
		first, made, one := impl.PushInto(e, y)
		other, _, two := impl.PushInto(e, x)
		again, madeAgain, three := impl.PushInto(e, y)
		want(t, "codes", [3]int64{one, two, three}, [3]int64{})
		want(t, fmt.Sprint(texts, ": the engine stays"), impl.EngineText(e), before)
		wantSignal(t, fmt.Sprint(texts, ": pushed again"), madeAgain, impl.OK, made...)
		wantEngine(t, fmt.Sprint(texts, ": pushed again"), again, first)
		want(t, fmt.Sprint(texts, ": pushed another block"), impl.SameEngine(first, other), len(texts) == 0)
	}
}

func TestPromise18SameEngines(t *testing.T) {
	p, q := planFrom(t, "delay 2"), planFrom(t, "delay 3")
	z := complex(minus0, 0)
	engines := []impl.Engine{
		{}, {Plan: p}, {Plan: q}, {Holds: []impl.Hold{{}}}, {Plan: p, Holds: []impl.Hold{{}}}, {Plan: p, Holds: []impl.Hold{{}, {}}},
		{Plan: p, Holds: []impl.Hold{{Seen: 1}}}, {Plan: p, Holds: []impl.Hold{{Seen: -1}}}, {Plan: p, Holds: []impl.Hold{{Seen: 1, Held: []complex128{0}}}}, {Plan: p, Holds: []impl.Hold{{Seen: 1, Held: []complex128{z}}}},
		{Plan: p, Holds: []impl.Hold{{Seen: 1, Held: []complex128{complex(nan, 1)}}}}, {Plan: p, Holds: []impl.Hold{{Seen: 1, Held: []complex128{complex(1, nan)}}}}, {Plan: p, Holds: []impl.Hold{{Seen: 1, Held: []complex128{0, 0}}}},
		{Plan: q, Holds: []impl.Hold{{Seen: 1, Held: []complex128{0}}}}, {Plan: p, Holds: []impl.Hold{{Seen: 1, Held: []complex128{1, 2}}}}, {Plan: p, Holds: []impl.Hold{{Seen: 1, Held: []complex128{2, 1}}}},
		{Plan: p, Holds: []impl.Hold{{Seen: 1}, {Seen: 2}}}, {Plan: p, Holds: []impl.Hold{{Seen: 2}, {Seen: 1}}}, {Holds: []impl.Hold{{Seen: 1}, {Held: make([]complex128, 500)}}}, {Holds: []impl.Hold{{Seen: 1}, {Held: make([]complex128, 501)}}},
		{Plan: impl.Plan{Steps: []impl.Step{{Kind: 77, Taps: []int64{1}}}}}, {Plan: impl.Plan{Steps: []impl.Step{{Kind: 77, Taps: []int64{2}}}}},
	}
	for i, e := range engines {
		for k, f := range engines {
			want(t, fmt.Sprintf("SameEngine of %v and %v", e, f), impl.SameEngine(e, f), i == k)
		}
		f := impl.Engine{Plan: impl.Plan{Steps: append([]impl.Step{}, e.Plan.Steps...)}, Holds: append([]impl.Hold{}, e.Holds...)}
		for k, h := range f.Holds {
			f.Holds[k].Held = append([]complex128{}, h.Held...)
		}
		want(t, fmt.Sprintf("SameEngine of %v and a copy", e), impl.SameEngine(e, f) && impl.SameEngine(f, e), true)
	}
	one := impl.Engine{Holds: []impl.Hold{{Held: []complex128{complex(nan, 0)}}}}
	other := impl.Engine{Holds: []impl.Hold{{Held: []complex128{complex(otherNaN, 0)}}}}
	want(t, "SameEngine of NaN", impl.SameEngine(one, other), true)
}

// TestPromise18EnginesWithoutSteps hand on what they get.
func TestPromise18EnginesWithoutSteps(t *testing.T) {
	for _, p := range []impl.Plan{{}, {Steps: []impl.Step{}}} {
		e, code := impl.StartEngine(p)
		wantEngine(t, "without steps", e, impl.Engine{})
		want(t, "without steps: code", code, impl.OK)
		for _, x := range append(oddShortSignals(), ruledSignal(256)) {
			next, made, code := impl.PushInto(e, x)
			wantSignal(t, "without steps: PushInto", made, code, x...)
			wantEngine(t, "without steps: PushInto", next, impl.Engine{})
		}
		seen, one := impl.SeenBy(e)
		made, two := impl.MadeBy(e)
		waiting, three := impl.WaitingIn(e)
		want(t, "without steps: counts", [6]int64{seen, made, waiting, one, two, three}, [6]int64{0, 0, 0, impl.ErrState, impl.ErrState, impl.OK})
		want(t, "without steps: valid", impl.ValidEngine(impl.Engine{Plan: p, Holds: []impl.Hold{}}), true)
		wantInvalidEngine(t, impl.Engine{Plan: p, Holds: []impl.Hold{{}}})
	}
	want(t, "text without steps", impl.EngineText(impl.Engine{}), "engine 0\n")
}

// TestPromise18EnginesOfManySteps has as many as there can be.
func TestPromise18EnginesOfManySteps(t *testing.T) {
	for _, texts := range [][]string{slices.Repeat([]string{"delay 300"}, 8), slices.Repeat([]string{"keep 2"}, 8), slices.Repeat([]string{"flip 3"}, 8), strings.Split("sum 16;block 16;back 16;flip 16;filter 1 2 3 4 5 6 7 8;turn 1024 1023;keep 64;stuff 64", ";")} {
		way := toldWayOf(t, texts, slices.Concat(ruledSignal(256), drawnNumbers(256), ruledSignal(90)))
		x := way.signals[0]
		wantPushed(t, way, [][]complex128{x[:1], x[1:7], x[7:256], x[256:512], x[512:]})
		want(t, "MaxSteps", len(texts), impl.MaxSteps)
	}
}
