package tests

import (
	"fmt"
	"math"
	"slices"
	"testing"

	"loop.example/g01155/impl"
)

func TestPromise18CutSignal(t *testing.T) {
	x := []complex128{1, 2i, complex(nan, minus0), complex(minus0, inf)}
	for _, each := range []struct {
		x    []complex128
		cuts []int64
		want [][]complex128
	}{
		{nil, nil, [][]complex128{nil}}, {nil, []int64{}, [][]complex128{nil}}, {nil, []int64{0}, [][]complex128{nil, nil}}, {nil, []int64{0, 0, 0}, [][]complex128{nil, nil, nil, nil}},
		{x, nil, [][]complex128{x}}, {x, []int64{0}, [][]complex128{nil, x}}, {x, []int64{1}, [][]complex128{x[:1], x[1:]}}, {x, []int64{4}, [][]complex128{x, nil}}, {x, []int64{3}, [][]complex128{x[:3], x[3:]}},
		{x, []int64{1, 0, 2}, [][]complex128{x[:1], nil, x[1:3], x[3:]}}, {x, []int64{1, 1, 1, 1}, [][]complex128{x[:1], x[1:2], x[2:3], x[3:], nil}}, {x, []int64{0, 4, 0}, [][]complex128{nil, x, nil, nil}}, {x, []int64{2, 2}, [][]complex128{x[:2], x[2:], nil}},
	} {
		blocks, code := impl.CutSignal(each.x, each.cuts)
		wantBlocks(t, fmt.Sprint("CutSignal ", each.x, " at ", each.cuts), blocks, code, each.want...)
	}
}

func TestPromise18CutErrors(t *testing.T) {
	for _, each := range []struct {
		length int
		cuts   []int64
		want   int64
	}{
		{256, nil, impl.OK}, {257, nil, impl.ErrLimit}, {257, []int64{-1}, impl.ErrLimit}, {257, make([]int64, 64), impl.ErrLimit}, {257, []int64{258}, impl.ErrLimit}, {100000, make([]int64, 100), impl.ErrLimit},
		{5, make([]int64, 63), impl.OK}, {5, make([]int64, 64), impl.ErrRange}, {5, make([]int64, 65), impl.ErrRange}, {256, slices.Repeat([]int64{4}, 63), impl.OK}, {256, slices.Repeat([]int64{4}, 64), impl.ErrRange}, {0, make([]int64, 63), impl.OK}, {0, make([]int64, 100000), impl.ErrRange},
		{5, []int64{-1}, impl.ErrRange}, {5, []int64{1, -1}, impl.ErrRange}, {5, []int64{5, -1}, impl.ErrRange}, {5, []int64{-1, 6}, impl.ErrRange}, {5, []int64{math.MinInt64}, impl.ErrRange}, {5, []int64{6, -1}, impl.ErrRange}, {0, []int64{-1}, impl.ErrRange}, {256, []int64{-1, 1}, impl.ErrRange},
		{5, []int64{5}, impl.OK}, {5, []int64{6}, impl.ErrRange}, {5, []int64{2, 3}, impl.OK}, {5, []int64{2, 4}, impl.ErrRange}, {5, []int64{4, 1, 0}, impl.OK}, {5, []int64{4, 1, 1}, impl.ErrRange}, {5, []int64{4, 2, 0}, impl.ErrRange}, {0, []int64{1}, impl.ErrRange}, {0, []int64{0}, impl.OK},
		{256, []int64{256}, impl.OK}, {256, []int64{257}, impl.ErrRange}, {256, []int64{0, 256, 0}, impl.OK}, {256, []int64{255, 1, 1}, impl.ErrRange},
		{5, []int64{math.MaxInt64}, impl.ErrRange}, {5, []int64{math.MaxInt64, math.MaxInt64, 2}, impl.ErrRange}, {5, []int64{1, math.MaxInt64}, impl.ErrRange}, {5, []int64{1 << 32}, impl.ErrRange}, {5, []int64{4611686018427387904, 4611686018427387904, 4611686018427387904, 4611686018427387904}, impl.ErrRange},
	} {
		x := drawnNumbers(each.length)
		blocks, code := impl.CutSignal(x, each.cuts)
		name := fmt.Sprint("CutSignal of ", each.length, " at ", len(each.cuts), " places")
		if each.want != impl.OK {
			wantCode(t, name, blocks, code, each.want)
			continue
		}
		want(t, name+": blocks", len(blocks), len(each.cuts)+1)
		wantSignal(t, name, slices.Concat(blocks...), code, x...)
		glued, code := impl.GlueBlocks(blocks)
		wantSignal(t, name+": GlueBlocks", glued, code, x...)
	}
}

func TestPromise18GlueBlocks(t *testing.T) {
	x := drawnNumbers(257)
	odd := []complex128{complex(minus0, nan), complex(inf, minus0)}
	for _, each := range []struct {
		blocks [][]complex128
		want   int64
	}{
		{nil, impl.OK}, {[][]complex128{}, impl.OK}, {[][]complex128{nil}, impl.OK}, {[][]complex128{nil, {}, nil}, impl.OK}, {[][]complex128{odd}, impl.OK}, {[][]complex128{odd, nil, odd[:1], odd}, impl.OK},
		{make([][]complex128, 64), impl.OK}, {make([][]complex128, 65), impl.ErrRange}, {make([][]complex128, 100000), impl.ErrRange}, {slices.Repeat([][]complex128{x[:4]}, 64), impl.OK}, {slices.Repeat([][]complex128{x[:4]}, 65), impl.ErrRange}, {slices.Repeat([][]complex128{x}, 65), impl.ErrRange},
		{[][]complex128{x[:256]}, impl.OK}, {[][]complex128{x}, impl.ErrLimit}, {[][]complex128{x[:255], x[:1]}, impl.OK}, {[][]complex128{x[:255], x[:2]}, impl.ErrLimit}, {[][]complex128{x[:1], x[:255], nil}, impl.OK}, {[][]complex128{nil, x[:2], x[:255]}, impl.ErrLimit}, {slices.Repeat([][]complex128{x[:5]}, 52), impl.ErrLimit}, {slices.Repeat([][]complex128{x[:5]}, 51), impl.OK}, {[][]complex128{x, x, x}, impl.ErrLimit}, {append(slices.Repeat([][]complex128{x[:4]}, 63), x[:5]), impl.ErrLimit},
	} {
		glued, code := impl.GlueBlocks(each.blocks)
		name := fmt.Sprint("GlueBlocks of ", len(each.blocks))
		if each.want != impl.OK {
			wantCode(t, name, glued, code, each.want)
			continue
		}
		wantSignal(t, name, glued, code, slices.Concat(each.blocks...)...)
	}
}

// TestPromise18CountsOfBlocks has as many blocks as there can be, and one more.
func TestPromise18CountsOfBlocks(t *testing.T) {
	x := ruledSignal(256)
	long := make([]complex128, 257)
	p := planFrom(t, "delay 3", "keep 2")
	for _, each := range []struct {
		blocks [][]complex128
		want   int64
	}{
		{nil, impl.OK}, {[][]complex128{}, impl.OK}, {[][]complex128{nil}, impl.OK}, {[][]complex128{x}, impl.OK}, {[][]complex128{long}, impl.ErrLimit},
		{make([][]complex128, 64), impl.OK}, {make([][]complex128, 65), impl.ErrRange}, {make([][]complex128, 100000), impl.ErrRange}, {slices.Repeat([][]complex128{x}, 64), impl.OK}, {slices.Repeat([][]complex128{x}, 65), impl.ErrRange}, {slices.Repeat([][]complex128{long}, 65), impl.ErrRange}, {slices.Repeat([][]complex128{long}, 64), impl.ErrLimit},
		{append(make([][]complex128, 63), long), impl.ErrLimit}, {append(make([][]complex128, 64), long), impl.ErrRange}, {[][]complex128{long, x}, impl.ErrLimit}, {[][]complex128{x, long, x}, impl.ErrLimit}, {slices.Concat(slices.Repeat([][]complex128{x[:1]}, 63), [][]complex128{x}), impl.OK},
	} {
		name := fmt.Sprint("RunBlocks of ", len(each.blocks))
		for _, plan := range []impl.Plan{p, {}} {
			made, code := impl.RunBlocks(plan, each.blocks)
			if each.want != impl.OK {
				wantCode(t, name, made, code, each.want)
				continue
			}
			want(t, name, [2]int64{int64(len(made)), code}, [2]int64{int64(len(each.blocks)), impl.OK})
			whole := slices.Concat(each.blocks...)
			if len(plan.Steps) > 0 {
				whole = toldRun("keep 2", toldRun("delay 3", whole))
			}
			wantSignal(t, name, slices.Concat(made...), code, whole...)
		}
	}
}

// TestPromise18LimitsOfBlocks has what steps make of blocks, which depends on what
// has come before.
func TestPromise18LimitsOfBlocks(t *testing.T) {
	for _, each := range []struct {
		texts   []string
		lengths []int
		want    int64
	}{
		{[]string{"stuff 2"}, []int{128, 0, 128, 1}, impl.OK}, {[]string{"stuff 2"}, []int{128, 0, 129, 1}, impl.ErrLimit}, {[]string{"stuff 2"}, []int{1, 2, 3, 129}, impl.ErrLimit}, {[]string{"stuff 2"}, []int{129}, impl.ErrLimit},
		{[]string{"keep 3", "stuff 3"}, []int{1, 256, 254, 1}, impl.OK}, {[]string{"keep 3", "stuff 3"}, []int{1, 254, 1, 256}, impl.OK}, {[]string{"keep 3", "stuff 3"}, []int{1, 254, 256}, impl.ErrLimit}, {[]string{"keep 3", "stuff 3"}, []int{256}, impl.ErrLimit},
		{[]string{"block 10"}, []int{9, 250}, impl.OK}, {[]string{"block 10"}, []int{9, 251}, impl.ErrLimit}, {[]string{"block 10"}, []int{9, 1, 256, 253}, impl.OK}, {[]string{"block 10"}, []int{9, 1, 256, 254}, impl.ErrLimit}, {[]string{"block 16"}, []int{15, 256, 256, 241}, impl.OK},
		{[]string{"stuff 64", "keep 64"}, []int{4, 4, 4}, impl.OK}, {[]string{"stuff 64", "keep 64"}, []int{4, 4, 5}, impl.ErrLimit}, {[]string{"keep 64", "stuff 64"}, []int{1, 255, 1, 192}, impl.OK}, {[]string{"keep 64", "stuff 64", "stuff 2"}, []int{1, 63, 65, 127}, impl.OK}, {[]string{"keep 64", "stuff 64", "stuff 2"}, []int{1, 63, 129}, impl.ErrLimit},
	} {
		total := 0
		for _, n := range each.lengths {
			total += n
		}
		x, way := ruledSignal(total), toldWayOf(t, each.texts, ruledSignal(total))
		var blocks [][]complex128
		for _, n := range each.lengths {
			blocks, x = append(blocks, x[:n]), x[n:]
		}
		_, code := impl.RunBlocks(way.plan, blocks)
		want(t, fmt.Sprint("RunBlocks ", each), code, each.want)
		wantPushed(t, way, blocks)
	}
}

// TestPromise18ZerosAreSkipped holds SkipZeros against PushInto of zeros.
func TestPromise18ZerosAreSkipped(t *testing.T) {
	for _, e := range someEngines(t) {
		name := fmt.Sprintf("SkipZeros of %q", impl.EngineText(e))
		for _, count := range []int{0, 1, 2, 3, 7, 100, 256} {
			next, made, code := impl.PushInto(e, make([]complex128, count))
			skipped, zeros, skippedCode := impl.SkipZeros(e, int64(count))
			want(t, name+": code", skippedCode, code)
			wantSignal(t, name, zeros, impl.OK, made...)
			if code == impl.OK {
				wantEngine(t, name, skipped, next)
			}
		}
		for _, count := range []int64{-1, 257, math.MinInt64, math.MaxInt64, 1 << 32, 1<<32 + 1, -256, 1000000} {
			skipped, zeros, code := impl.SkipZeros(e, count)
			wantNoEngine(t, name, skipped, code, impl.ErrRange)
			want(t, name+": made", len(zeros), 0)
		}
	}
}

// TestPromise18NarrowBlocks holds PushNarrowInto against PushInto.
func TestPromise18NarrowBlocks(t *testing.T) {
	d := &draws{state: 41}
	signals := append(someChainSignals(), nil)
	for _, texts := range append(bothDrawn(60), plansToCut()...) {
		for _, wideSignal := range signals {
			x := narrowed(wideSignal)
			e, narrowEngine := startOf(t, texts...), startOf(t, texts...)
			for _, block := range append(drawnCut(d, widened(x)), nil) {
				next, made, code := impl.PushInto(e, block)
				narrowNext, narrowMade, narrowCode := impl.PushNarrowInto(narrowEngine, narrowed(block))
				name := fmt.Sprint("PushNarrowInto ", texts, " of ", len(block))
				want(t, name+": code", narrowCode, code)
				want(t, name, narrowTextOf(narrowMade), narrowTextOf(narrowed(made)))
				if code != impl.OK {
					continue
				}
				wantEngine(t, name, narrowNext, next)
				e, narrowEngine = next, narrowNext
			}
		}
	}
}

// TestPromise18NarrowBlocksOfPlans holds narrow blocks against RunNarrow, and what
// is held by wide steps.
func TestPromise18NarrowBlocksOfPlans(t *testing.T) {
	for _, texts := range append(bothDrawn(100), plansToCut()...) {
		x := narrowed(oddChainSignal())
		whole, code := impl.RunNarrow(planFrom(t, texts...), x)
		if code != impl.OK {
			continue
		}
		e := startOf(t, texts...)
		var all []complex64
		for block := range slices.Chunk(x, 7) {
			next, made, code := impl.PushNarrowInto(e, block)
			want(t, "PushNarrowInto: code", code, impl.OK)
			e, all = next, append(all, made...)
		}
		want(t, fmt.Sprint("PushNarrowInto ", texts), narrowTextOf(all), narrowTextOf(whole))
	}
	e := startOf(t, "gain 1 0", "sum 2")
	e, _, _ = impl.PushNarrowInto(e, []complex64{complex(0x1.000002p0, 0)})
	wantSame(t, "held in the wide width", e.Holds[1].Held[0], complex(0x1.000002p-4, 0))
	e = pushed(t, startOf(t, "sum 2"), 1+0x1p-40)
	_, made, code := impl.PushNarrowInto(e, []complex64{-1})
	want(t, "narrowed at the end", fmt.Sprint(made, code), fmt.Sprint([]complex64{0x1p-40}, 0))
}
