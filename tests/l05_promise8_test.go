package tests

import (
	"fmt"
	"math"
	"runtime"
	"slices"
	"sync"
	"testing"

	"loop.example/g01155/impl"
)

// frameCase is a signal that is cut by a window.
type frameCase struct {
	x   []complex128
	w   []float64
	hop int64
}

func (c frameCase) name() string {
	return fmt.Sprintf("%d numbers by a window of %d with the hop %d", len(c.x), len(c.w), c.hop)
}

// eachFrameCase goes through cuts in the order of a program outside of this one.
func eachFrameCase(yield func(c frameCase) bool) {
	for c := range eachCut {
		if c.kind != impl.WdHann && c.kind != impl.WdBlackman {
			continue
		}
		x := ruledSignal(c.length)
		if (int(c.n+c.hop)+c.length)%3 == 0 {
			x = brokenSignal(c.length)
		}
		if !yield(frameCase{x, c.window(), c.hop}) {
			return
		}
	}
}

// TestPromise8BitsOfManyFrames holds them against a program outside of this one.
func TestPromise8BitsOfManyFrames(t *testing.T) {
	frames := hashOf(func(yield func(string) bool) {
		for c := range eachFrameCase {
			list, _ := impl.AnalyseBank(c.x, c.w, c.hop)
			for _, frame := range list {
				wideLines(yield, frame)
			}
		}
	})
	want(t, "hash of frames", frames, 0x2924e6ab6fa1b4e8)
	signals := hashOf(func(yield func(string) bool) {
		for c := range eachFrameCase {
			list, _ := impl.AnalyseBank(c.x, c.w, c.hop)
			x, _ := impl.SynthesiseBank(list, c.w, c.hop)
			wideLines(yield, x)
		}
	})
	want(t, "hash of signals", signals, 0x897e603eb214b45)
}

// someFrameCases have windows of any numbers.
func someFrameCases(yield func(c frameCase) bool) {
	for _, x := range signalsToCut() {
		for _, size := range []int64{1, 2, 3, 4, 8, 13} {
			for _, hop := range someHops(size) {
				for _, w := range [][]float64{toldWindow(impl.WdSine, size), oddWindow(int(size))} {
					if isCutRight(int64(len(x)), size, hop) && !yield(frameCase{x, w, hop}) {
						return
					}
				}
			}
		}
	}
}

func TestPromise8FramesByTheirRules(t *testing.T) {
	for c := range someFrameCases {
		frames, code := impl.AnalyseBank(c.x, c.w, c.hop)
		wantBlocks(t, "AnalyseBank of "+c.name(), frames, code, toldFrames(c.x, c.w, int(c.hop))...)
		got, code := impl.SynthesiseBank(frames, c.w, c.hop)
		wantSignal(t, "SynthesiseBank of "+c.name(), got, code, toldSynthesised(frames, c.w, int(c.hop))...)
	}
}

// TestPromise8SynthesisedByTheirRules has frames that are those of no signal.
func TestPromise8SynthesisedByTheirRules(t *testing.T) {
	for c := range someFrameCases {
		blocks := toldBlocks(c.x, len(c.w), int(c.hop))
		got, code := impl.SynthesiseBank(blocks, c.w, c.hop)
		wantSignal(t, "SynthesiseBank of "+c.name(), got, code, toldSynthesised(blocks, c.w, int(c.hop))...)
	}
}

func TestPromise8Frames(t *testing.T) {
	frames, code := impl.AnalyseBank([]complex128{1, 3, 5, 7}, []float64{1, 2}, 2)
	wantBlocks(t, "AnalyseBank", frames, code, []complex128{7, -5}, []complex128{19, -9})
	got, code := impl.SynthesiseBank(frames, []float64{1, 2}, 2)
	wantSignal(t, "SynthesiseBank", got, code, 1, complex(3, minus0), 5, complex(7, minus0))
	frames, code = impl.AnalyseBank([]complex128{1, 3, 5}, []float64{1, 2}, 1)
	wantBlocks(t, "AnalyseBank with overlapped blocks", frames, code, []complex128{7, -5}, []complex128{13, -7})
	got, code = impl.SynthesiseBank(frames, []float64{1, 2}, 1)
	wantSignal(t, "SynthesiseBank of overlapped blocks", got, code, 1, 3, complex(5, minus0))
	frames, code = impl.AnalyseBank(nil, []float64{1, 2}, 1)
	wantBlocks(t, "AnalyseBank of nothing", frames, code)
	got, code = impl.SynthesiseBank(nil, []float64{1, 2}, 1)
	wantSignal(t, "SynthesiseBank of nothing", got, code)
	got, code = impl.SynthesiseBank([][]complex128{{1i}, {complex(2, minus0)}}, []float64{0}, 1)
	wantSignal(t, "SynthesiseBank without weights", got, code, complex(nan, nan), complex(nan, nan))
}

// TestPromise8FramesAreRebuilt allows for what a transform there and back may
// lose in each block that stands at a place, divided by the weight there: it is
// much where the weight is small.
func TestPromise8FramesAreRebuilt(t *testing.T) {
	for c := range eachCut {
		for _, x := range [][]complex128{ruledSignal(c.length), drawnNumbers(c.length)} {
			w := c.window()
			frames, _ := impl.AnalyseBank(x, w, c.hop)
			got, code := impl.SynthesiseBank(frames, w, c.hop)
			want(t, "SynthesiseBank: code", code, impl.OK)
			losses := lossesAt(x, w, c.hop)
			padded := append(slices.Clone(x), make([]complex128, max(0, len(got)-len(x)))...)
			for i, each := range got {
				name := fmt.Sprintf("window %d of %d with the hop %d, %d numbers, place %d", c.kind, c.n, c.hop, c.length, i)
				apart := each - padded[i]
				isNone := math.IsInf(losses[i], 1) || math.IsNaN(losses[i])
				if !isNone && !(math.Abs(real(apart)) <= losses[i] && math.Abs(imag(apart)) <= losses[i]) {
					t.Fatalf("%s: got %v, want %v up to %v", name, each, padded[i], losses[i])
				}
			}
		}
	}
}

// lossesAt is what each number of a signal may lose.
func lossesAt(x []complex128, w []float64, hop int64) []float64 {
	blocks, _ := impl.WindowedBlocks(x, w, hop)
	weights, _ := impl.WindowWeights(w, int64(len(blocks)), hop)
	losses := make([]float64, len(weights))
	for k, block := range blocks {
		bound, _ := impl.BoundOf(block)
		for i, each := range w {
			losses[k*int(hop)+i] += math.Abs(each) * bound
		}
	}
	for i := range losses {
		losses[i] /= weights[i]
		if i < len(x) {
			losses[i] += toldSizes(x[i:i+1]) * math.Ldexp(float64(len(blocks)+4), -52)
		}
	}
	return losses
}

// TestPromise8FramesDoNotDependOnTheirOrder runs goroutines one at a time, and
// many at once.
func TestPromise8FramesDoNotDependOnTheirOrder(t *testing.T) {
	x, w := drawnNumbers(256), toldWindow(impl.WdHamming, 128)
	textOf := func() string {
		frames, one := impl.AnalyseBank(x[:250], w, 3)
		again, two := impl.SynthesiseBank(frames, w, 3)
		return fmt.Sprintf("%x %x %d %d", frames, again, one, two)
	}
	defer runtime.GOMAXPROCS(runtime.GOMAXPROCS(1))
	first := textOf()
	for _, count := range []int{1, 2, 8} {
		runtime.GOMAXPROCS(count)
		var working sync.WaitGroup
		texts := make([]string, 8)
		for i := range texts {
			working.Go(func() { texts[i] = textOf() })
		}
		working.Wait()
		for _, text := range texts {
			want(t, "frames and their signal", text == first, true)
		}
	}
}

func TestPromise8AnalyseErrors(t *testing.T) {
	x, w := drawnNumbers(257), slices.Repeat([]float64{1}, 257)
	for _, c := range []struct {
		length, size int
		hop          int64
		count        int
		code         int64
	}{
		{0, 1, 1, 0, impl.OK}, {1, 1, 1, 1, impl.OK}, {4, 4, 4, 1, impl.OK}, {5, 4, 4, 2, impl.OK}, {5, 4, 1, 2, impl.OK}, {256, 256, 256, 1, impl.OK}, {256, 4, 4, 64, impl.OK},
		{67, 4, 1, 64, impl.OK}, {68, 4, 1, 0, impl.ErrLimit}, {256, 4, 3, 0, impl.ErrLimit}, {65, 1, 1, 0, impl.ErrLimit}, {64, 1, 1, 64, impl.OK}, {191, 3, 3, 64, impl.OK}, {193, 3, 3, 0, impl.ErrLimit},
		{5, 4, 5, 0, impl.ErrRange}, {5, 4, 0, 0, impl.ErrRange}, {5, 4, -1, 0, impl.ErrRange}, {0, 4, 5, 0, impl.ErrRange}, {0, 0, 1, 0, impl.ErrRange}, {5, 0, 0, 0, impl.ErrRange}, {256, 256, 257, 0, impl.ErrRange},
		{256, 1, 2, 0, impl.ErrRange}, {5, 4, math.MaxInt64, 0, impl.ErrRange}, {5, 4, math.MinInt64, 0, impl.ErrRange},
		{257, 4, 4, 0, impl.ErrLimit}, {257, 4, 0, 0, impl.ErrLimit}, {257, 0, 1, 0, impl.ErrLimit}, {5, 257, 1, 0, impl.ErrLimit}, {5, 257, 0, 0, impl.ErrLimit}, {0, 257, 300, 0, impl.ErrLimit}, {257, 257, -1, 0, impl.ErrLimit},
	} {
		frames, code := impl.AnalyseBank(x[:c.length], w[:c.size], c.hop)
		wantCount(t, fmt.Sprint("AnalyseBank ", c), frames, code, c.count, c.code)
		_, other := impl.WindowedBlocks(x[:c.length], w[:c.size], c.hop)
		want(t, fmt.Sprint("AnalyseBank as WindowedBlocks ", c), code, other)
		for _, frame := range frames {
			want(t, "numbers of a frame", len(frame), c.size)
		}
	}
}

func TestPromise8SynthesiseErrors(t *testing.T) {
	block, w := drawnNumbers(257), slices.Repeat([]float64{1}, 257)
	many := func(count, size int) [][]complex128 { return slices.Repeat([][]complex128{block[:size]}, count) }
	mixed := func(first, second int) [][]complex128 { return [][]complex128{block[:first], block[:second]} }
	for _, c := range []struct {
		name   string
		frames [][]complex128
		length int
		hop    int64
		count  int
		code   int64
	}{
		{"no frames", nil, 4, 1, 0, impl.OK}, {"no frames", nil, 4, 4, 0, impl.OK}, {"no frames", nil, 4, 5, 0, impl.ErrRange}, {"no frames", nil, 0, 1, 0, impl.ErrRange}, {"no frames", nil, 257, 1, 0, impl.ErrLimit},
		{"MaxFrames", many(64, 4), 4, 4, 256, impl.OK}, {"beyond MaxFrames", many(65, 1), 1, 1, 0, impl.ErrLimit}, {"beyond MaxFrames", many(65, 0), 2, 0, 0, impl.ErrLimit},
		{"MaxSignal", many(1, 256), 256, 256, 256, impl.OK}, {"MaxSignal", many(64, 193), 193, 1, 256, impl.OK}, {"beyond MaxSignal", many(64, 194), 194, 1, 0, impl.ErrLimit}, {"beyond MaxSignal", many(2, 256), 255, 1, 0, impl.ErrRange},
		{"a long frame", mixed(2, 257), 2, 1, 0, impl.ErrLimit}, {"a long frame", mixed(0, 257), 0, 0, 0, impl.ErrLimit}, {"a long window", mixed(2, 3), 257, 0, 0, impl.ErrLimit},
		{"another size", many(2, 2), 3, 1, 0, impl.ErrRange}, {"another size", many(2, 3), 2, 1, 0, impl.ErrRange}, {"empty frames", many(2, 0), 0, 0, 0, impl.ErrRange}, {"empty frames", many(2, 0), 2, 1, 0, impl.ErrRange},
		{"other sizes", mixed(2, 3), 2, 1, 0, impl.ErrRange}, {"other sizes", mixed(256, 255), 256, 256, 0, impl.ErrRange},
		{"hop", many(2, 2), 2, 3, 0, impl.ErrRange}, {"hop", many(2, 2), 2, 0, 0, impl.ErrRange}, {"hop", many(2, 2), 2, -1, 0, impl.ErrRange}, {"hop", many(2, 2), 2, math.MinInt64, 0, impl.ErrRange}, {"hop", many(2, 2), 2, 2, 4, impl.OK},
	} {
		got, code := impl.SynthesiseBank(c.frames, w[:c.length], c.hop)
		name := fmt.Sprintf("SynthesiseBank of %s by a window of %d with the hop %d", c.name, c.length, c.hop)
		wantCount(t, name, got, code, c.count, c.code)
		_, other := impl.RebuildSignal(c.frames, w[:c.length], c.hop)
		want(t, name+", as RebuildSignal", code, other)
	}
}
