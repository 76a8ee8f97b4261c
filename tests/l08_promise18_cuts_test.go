package tests

import (
	"fmt"
	"slices"
	"strings"
	"testing"

	"loop.example/g01155/impl"
)

// oddShortSignals have few numbers, of every kind.
func oddShortSignals() [][]complex128 {
	z := complex(minus0, minus0)
	return [][]complex128{
		nil, {z}, {z, z, z}, {1, complex(inf, -inf), 2, complex(nan, minus0), z}, {complex(great, least), complex(-great, -least), z, complex(1e300, 0x1p-150), 1 + 0x1p-30, complex(least, inf)},
	}
}

// TestPromise18EveryCutOfShortSignals has each cut of signals, also with empty
// blocks, for each kind of step and plans of several steps.
func TestPromise18EveryCutOfShortSignals(t *testing.T) {
	for _, texts := range append(plansToCut(), inPlans(stepsToCut())...) {
		for _, x := range append(oddShortSignals(), ruledSignal(1), ruledSignal(2), ruledSignal(7)) {
			way := toldWayOf(t, texts, x)
			for _, blocks := range allCuts(x) {
				wantPushed(t, way, blocks)
			}
		}
	}
}

// drawnCut has blocks of a signal; a few of them are long, and many are short.
func drawnCut(d *draws, x []complex128) [][]complex128 {
	var blocks [][]complex128
	for len(x) > 0 {
		n := min(d.next([]int64{3, 12, 40}[d.next(3)]), int64(len(x)))
		blocks, x = append(blocks, x[:n]), x[n:]
	}
	return blocks
}

// isShort tells whether what the steps make of so many numbers takes not long.
func isShort(texts []string, n int64) bool {
	made, code := toldLength(texts, n)
	for i := range texts {
		between, one := toldLength(texts[:i], n)
		made, code = max(made, between), max(code, one)
	}
	return code == impl.OK && made <= 3000
}

// TestPromise18ManyCutsOfLongSignals has signals that are longer than MaxSignal,
// too, which only blocks can be.
func TestPromise18ManyCutsOfLongSignals(t *testing.T) {
	d := &draws{state: 21}
	signals := [][]complex128{oddChainSignal(), ruledSignal(256), slices.Concat(ruledSignal(300), oddChainSignal(), ruledSignal(70))}
	for _, texts := range append(bothDrawn(25), plansToCut()...) {
		for _, x := range signals {
			if !isShort(texts, int64(len(x))) {
				continue
			}
			way := toldWayOf(t, texts, x)
			for range 4 {
				wantPushed(t, way, drawnCut(d, x))
			}
			wantPushed(t, way, slices.Collect(slices.Chunk(x, 16)))
			wantPushed(t, way, slices.Collect(slices.Chunk(x, 256)))
		}
	}
}

// TestPromise18BlocksMakeTheWhole holds blocks against RunPlan.
func TestPromise18BlocksMakeTheWhole(t *testing.T) {
	d := &draws{state: 22}
	for _, texts := range slices.Concat(bothDrawn(300), plansToCut(), inPlans(manySteps())) {
		p := planFrom(t, texts...)
		for _, x := range [][]complex128{ruledSignal(17), oddChainSignal(), ruledSignal(256)} {
			whole, code := impl.RunPlan(p, x)
			if code != impl.OK {
				continue
			}
			for _, blocks := range [][][]complex128{drawnCut(d, x), {x}, {nil, x, nil}, slices.Collect(slices.Chunk(x, 5))} {
				name := fmt.Sprint("RunBlocks ", texts, " of ", lengthsOf(blocks))
				made, code := impl.RunBlocks(p, blocks)
				want(t, name+": code", code, impl.OK)
				want(t, name+": blocks", len(made), len(blocks))
				wantSignal(t, name, slices.Concat(made...), code, whole...)
				glued, code := impl.GlueBlocks(made)
				wantSignal(t, name+": GlueBlocks", glued, code, whole...)
			}
		}
	}
}

// TestPromise18CutsMakeTheWhole cuts by CutSignal, at any places.
func TestPromise18CutsMakeTheWhole(t *testing.T) {
	d := &draws{state: 23}
	for _, texts := range append(bothDrawn(150), plansToCut()...) {
		p := planFrom(t, texts...)
		x := drawnNumbers(int(d.next(257)))
		var cuts []int64
		rest := int64(len(x))
		for range d.next(64) {
			cuts = append(cuts, d.next(min(rest, 9)+1))
			rest -= cuts[len(cuts)-1]
		}
		whole, wholeCode := impl.RunPlan(p, x)
		blocks, code := impl.CutSignal(x, cuts)
		want(t, "CutSignal: code", code, impl.OK)
		made, code := impl.RunBlocks(p, blocks)
		if wholeCode != impl.OK {
			continue
		}
		want(t, "RunBlocks: code", code, impl.OK)
		glued, code := impl.GlueBlocks(made)
		wantSignal(t, fmt.Sprint(texts, " in ", cuts), glued, code, whole...)
	}
}

// pushLines are the bits of what is made of blocks, and the lines of each engine
// behind a block.
func pushLines(yield func(string) bool, e impl.Engine, blocks [][]complex128) bool {
	for _, block := range blocks {
		next, made, code := impl.PushInto(e, block)
		if code == impl.ErrLimit {
			if !yield("limit") {
				return false
			}
			continue
		}
		e = next
		if !wideLines(yield, made) || !yield(strings.TrimSuffix(impl.EngineText(e), "\n")) {
			return false
		}
	}
	return true
}

// TestPromise18BitsOfManyPushes holds engines against a program outside of this
// one that runs the steps number by number.
func TestPromise18BitsOfManyPushes(t *testing.T) {
	d := &draws{state: 11}
	hash := hashOf(func(yield func(string) bool) {
		for _, texts := range drawnPlans(300, drawnStep) {
			for _, x := range chainSignals() {
				if !pushLines(yield, startOf(t, texts...), drawnCut(d, x)) {
					return
				}
			}
		}
	})
	want(t, "hash of pushes", hash, 0xa05f9bd7ce9424bd)
}

// farSeen is any count of numbers, up to MaxSeen.
func farSeen(d *draws, most int64) int64 {
	if d.next(4) == 0 {
		return 1000000000000000 - d.next(1<<30)
	}
	first, second := d.next(1<<30), d.next(1<<30)
	return first * second % most
}

// TestPromise18BitsFarOn has engines that have seen so many numbers that nobody
// can push them.
func TestPromise18BitsFarOn(t *testing.T) {
	d := &draws{state: 13}
	hash := hashOf(func(yield func(string) bool) {
		for _, texts := range drawnPlans(300, drawnStep) {
			for _, most := range []int64{400, 1 << 32, 20000000000000} {
				e, ok := farEngine(t, texts, farSeen(d, most), ruledSignal(400))
				if !ok && !yield("none") || ok && !pushLines(yield, e, drawnCut(d, ruledSignal(60))) {
					return
				}
			}
		}
	})
	want(t, "hash of pushes far on", hash, 0x80962bf9c2b48ca9)
}
