package tests

import (
	"fmt"
	"math"
	"testing"

	"loop.example/g01155/impl"
)

// given has arguments for all functions of chapters 3 to 9; whatever is a slice
// has numbers behind it that must stay as well.
type given struct {
	x            []complex128
	w            []float64
	narrow       []complex64
	narrowWindow []float32
	blocks       [][]complex128
	adder        impl.Adder
	filter       impl.Filter
	plan         impl.Plan
	engine       impl.Engine
	studio       impl.Studio
	records      []impl.Record
	deeds        []impl.Deed
}

func someGiven() given {
	x, y := withRoom(mixedSignal()), withRoom(drawnNumbers(6))
	w := append([]float64{0.5, minus0, nan, inf, otherNaN, 3}, 7, nan)[:6]
	narrowWindow := append([]float32{0.5, -3, float32(nan), float32(inf), 0, 1}, 7)[:6]
	blocks := append([][]complex128{withRoom(x), withRoom(y), withRoom(x)}, withRoom(y))[:3]
	return given{
		x: x, w: w, narrow: append(narrowed(y), 7, 8i)[:6], narrowWindow: narrowWindow,
		blocks: blocks, adder: impl.Adder{Size: 6, Hop: 2, Tail: withRoom(x)[:4]},
		filter: impl.Filter{Taps: withRoom(y), Past: withRoom(x)[:4]}, plan: planWithRoom(),
		engine: engineWithRoom(), studio: studioWithRoom(), records: recordsWithRoom(), deeds: deedsWithRoom(),
	}
}

// text has the bits of all that is given, up to the capacities.
func (g given) text() string {
	text := fmt.Sprintf("%x %x", bitsOf(g.x[:cap(g.x)]), narrowBitsOf(g.narrow[:cap(g.narrow)]))
	for _, a := range g.w[:cap(g.w)] {
		text += fmt.Sprintf(" %x", math.Float64bits(a))
	}
	for _, a := range g.narrowWindow[:cap(g.narrowWindow)] {
		text += fmt.Sprintf(" %x", math.Float32bits(a))
	}
	for _, block := range g.blocks[:cap(g.blocks)] {
		text += fmt.Sprintf(" %d %x", len(block), bitsOf(block[:cap(block)]))
	}
	for _, list := range [][]complex128{g.filter.Taps, g.filter.Past} {
		text += fmt.Sprintf(" %d %x", len(list), bitsOf(list[:cap(list)]))
	}
	tail := g.adder.Tail
	text += fmt.Sprintf(" %d %d %d %x", g.adder.Size, g.adder.Hop, len(tail), bitsOf(tail[:cap(tail)]))
	return text + planTextUpTo(g.plan) + engineTextUpTo(g.engine) + storeTextUpTo(g)
}

func pack(results ...any) []any { return results }

func windowCalls() map[string]func(g given) []any {
	return map[string]func(g given) []any{
		"WindowOf":          func(g given) []any { return pack(impl.WindowOf(impl.WdHann, 9)) },
		"GainOf":            func(g given) []any { return pack(impl.GainOf(g.w)) },
		"PowerOf":           func(g given) []any { return pack(impl.PowerOf(g.w)) },
		"ApplyWindow":       func(g given) []any { return pack(impl.ApplyWindow(g.x, g.w)) },
		"NarrowWindow":      func(g given) []any { return pack(impl.NarrowWindow(g.w)) },
		"ApplyNarrowWindow": func(g given) []any { return pack(impl.ApplyNarrowWindow(g.narrow, g.narrowWindow)) },
		"OverlapSums":       func(g given) []any { return pack(impl.OverlapSums(g.w, 4)) },
		"OverlapSums, full": func(g given) []any { return pack(impl.OverlapSums(g.w, 6)) },
		"RippleOf":          func(g given) []any { return pack(impl.RippleOf(g.w, 2)) },
		"FlatWindow":        func(g given) []any { return pack(impl.FlatWindow(g.w, 2)) },
		"BlockCount":        func(g given) []any { return pack(impl.BlockCount(200, 7, 3)) },
		"BlocksOf":          func(g given) []any { return pack(impl.BlocksOf(g.x, 3, 2)) },
		"BlocksOf, one":     func(g given) []any { return pack(impl.BlocksOf(g.x, 6, 6)) },
		"WindowedBlocks":    func(g given) []any { return pack(impl.WindowedBlocks(g.x, g.w[:3], 1)) },
		"OverlapAdd":        func(g given) []any { return pack(impl.OverlapAdd(g.blocks, 2)) },
		"OverlapAdd, one":   func(g given) []any { return pack(impl.OverlapAdd(g.blocks[:1], 6)) },
		"WindowWeights":     func(g given) []any { return pack(impl.WindowWeights(g.w, 5, 2)) },
		"RebuildSignal":     func(g given) []any { return pack(impl.RebuildSignal(g.blocks, g.w, 2)) },
		"NewAdder":          func(g given) []any { return pack(impl.NewAdder(6, 2)) },
		"ValidAdder":        func(g given) []any { return pack(impl.ValidAdder(g.adder)) },
		"SameAdder":         func(g given) []any { return pack(impl.SameAdder(g.adder, g.adder)) },
		"AddBlock":          func(g given) []any { return pack(impl.AddBlock(g.adder, g.x)) },
		"AddBlock, first": func(g given) []any {
			return pack(impl.AddBlock(impl.Adder{Size: 6, Hop: 2}, g.x))
		},
		"AddBlock, full hop": func(g given) []any {
			return pack(impl.AddBlock(impl.Adder{Size: 6, Hop: 6, Tail: g.x[:0]}, g.x))
		},
		"FinishAdder":        func(g given) []any { return pack(impl.FinishAdder(g.adder)) },
		"FinishAdder, empty": func(g given) []any { return pack(impl.FinishAdder(impl.Adder{Size: 6, Hop: 2, Tail: g.x[:0]})) },
	}
}

// piece is one slice of a result: its text, and a way to overwrite all of it.
type piece struct {
	text  func() string
	spoil func()
}

func pieceOf[T any](list []T, by T) piece {
	return piece{
		text: func() string { return fmt.Sprintf("%x", any(list)) },
		spoil: func() {
			for i := range list[:cap(list)] {
				list[:cap(list)][i] = by
			}
		},
	}
}

func piecesOf(results []any) []piece {
	var pieces []piece
	for _, each := range results {
		switch list := each.(type) {
		case []float64:
			pieces = append(pieces, pieceOf(list, 9))
		case []float32:
			pieces = append(pieces, pieceOf(list, 9))
		case []int64:
			pieces = append(pieces, pieceOf(list, 9))
		case []complex64:
			pieces = append(pieces, pieceOf(list, 9i))
		case []complex128:
			pieces = append(pieces, pieceOf(list, 9i))
		case [][]complex128:
			for _, block := range list {
				pieces = append(pieces, pieceOf(block, 9i))
			}
		case impl.Adder:
			pieces = append(pieces, pieceOf(list.Tail, 9i))
		case impl.Filter:
			pieces = append(pieces, pieceOf(list.Taps, 9i), pieceOf(list.Past, 9i))
		case impl.Step:
			pieces = append(pieces, pieceOf(list.Taps, 9))
		case impl.Plan:
			pieces = append(pieces, piecesOfPlan(list)...)
		case impl.Engine:
			pieces = append(pieces, piecesOfEngine(list)...)
		default:
			pieces = append(pieces, piecesOfStore(each)...)
		}
	}
	return pieces
}

func TestPromise1WindowsAndBlocksStayAsTheyAre(t *testing.T) {
	for name, run := range windowCalls() {
		wantStays(t, name, run)
	}
}

// wantStays asks that a function tells the same again, modifies nothing that is
// given, and hands out no memory of it, nor the same memory twice.
func wantStays(t *testing.T, name string, run func(g given) []any) {
	t.Helper()
	g := someGiven()
	before := g.text()
	results := run(g)
	first := fmt.Sprintf("%x", results)
	want(t, name+": arguments", g.text(), before)
	want(t, name+": code", lastCode(results), impl.OK)
	for i := range piecesOf(results) {
		wantAlone(t, name, piecesOf(run(g)), i)
	}
	clearLists(run(g))
	want(t, name+": arguments, results overwritten", g.text(), before)
	want(t, name+": called again", fmt.Sprintf("%x", run(g)), first)
	want(t, name+": arguments, called again", g.text(), before)
}

// clearLists overwrites the lists of signals among results, but not the signals.
func clearLists(results []any) {
	for _, each := range results {
		if list, ok := each.([][]complex128); ok {
			clear(list[:cap(list)])
		}
	}
}

// wantAlone asks that what is written to a piece is seen in no other one.
func wantAlone(t *testing.T, name string, pieces []piece, i int) {
	t.Helper()
	var before []string
	for _, each := range pieces {
		before = append(before, each.text())
	}
	pieces[i].spoil()
	for k, each := range pieces {
		if k != i {
			want(t, name+": a slice, another one overwritten", each.text(), before[k])
		}
	}
}

// lastCode returns OK for functions without a code.
func lastCode(results []any) int64 {
	code, _ := results[len(results)-1].(int64)
	return code
}

func oddIntegers() []int64 {
	return []int64{math.MinInt64, math.MinInt64 + 1, -1 << 32, -257, -256, -64, -1, 0, 1, 2, 3, 4, 5, 6, 7, 63, 64, 65, 255, 256, 257, 1 << 32, 1<<32 + 2, math.MaxInt64 - 1, math.MaxInt64}
}

func TestPromise1WindowsOfAnyIntegers(t *testing.T) {
	w := []float64{1, 2, 3}
	for _, a := range oddIntegers() {
		sums, one := impl.OverlapSums(w, a)
		ripple, two := impl.RippleOf(w, a)
		flat, three := impl.FlatWindow(w, a)
		isHop := a >= 1 && a <= 3
		want(t, "codes are OK", [3]bool{one == impl.OK, two == impl.OK, three == impl.OK}, [3]bool{isHop, isHop, isHop})
		want(t, "something is told", [3]bool{len(sums) != 0, ripple != 0, len(flat) != 0}, [3]bool{isHop, isHop && a != 1, isHop})
		for _, b := range oddIntegers() {
			window, code := impl.WindowOf(a, b)
			isWindow := a >= 1 && a <= 6 && b >= 1 && b <= 256
			want(t, "WindowOf: code is OK", code == impl.OK, isWindow)
			want(t, "WindowOf: something is told", len(window) != 0, isWindow)
			weights, code := impl.WindowWeights(w, a, b)
			isPlaced := a >= 0 && a <= 64 && b >= 1 && b <= 3
			want(t, "WindowWeights: code is OK", code == impl.OK, isPlaced)
			want(t, "WindowWeights: something is told", len(weights) != 0, isPlaced && a != 0)
		}
	}
}

func TestPromise1BlocksOfAnyIntegers(t *testing.T) {
	signal := make([]complex128, 64)
	for _, size := range oddIntegers() {
		for _, hop := range oddIntegers() {
			isRight := size >= 1 && size <= 256 && hop >= 1 && hop <= size
			for _, length := range oddIntegers() {
				count, code := impl.BlockCount(length, size, hop)
				isCut := isRight && length >= 0 && length <= 256
				want(t, "BlockCount: code is OK", code == impl.OK, isCut)
				want(t, "BlockCount: something is told", count != 0, isCut && length != 0)
			}
			blocks, one := impl.BlocksOf(signal, size, hop)
			adder, two := impl.NewAdder(size, hop)
			want(t, "codes are OK", [2]bool{one == impl.OK, two == impl.OK}, [2]bool{isRight, isRight})
			want(t, "something is told", [2]bool{len(blocks) != 0, adder.Size != 0 || adder.Hop != 0}, [2]bool{isRight, isRight})
			want(t, "ValidAdder", impl.ValidAdder(impl.Adder{Size: size, Hop: hop}), isRight)
			_, _, one = impl.AddBlock(impl.Adder{Size: size, Hop: hop, Tail: signal[:2]}, signal[:4])
			_, two = impl.FinishAdder(impl.Adder{Size: size, Hop: hop, Tail: signal[:2]})
			hasTail := isRight && size == hop+2
			want(t, "adders are valid", [2]bool{one != impl.ErrInvalid, two == impl.OK}, [2]bool{hasTail, hasTail})
		}
	}
}

func TestPromise1WindowsOfNothing(t *testing.T) {
	for _, w := range [][]float64{nil, {}} {
		gain, one := impl.GainOf(w)
		power, two := impl.PowerOf(w)
		narrow, three := impl.NarrowWindow(w)
		wantSameReal(t, "GainOf nothing", gain, 0)
		wantSameReal(t, "PowerOf nothing", power, 0)
		want(t, "NarrowWindow of nothing", len(narrow), 0)
		for _, x := range [][]complex128{nil, {}} {
			got, code := impl.ApplyWindow(x, w)
			wantSignal(t, "ApplyWindow of nothing", got, code)
			blocks, code := impl.BlocksOf(x, 4, 2)
			wantBlocks(t, "BlocksOf nothing", blocks, code)
			same := impl.SameAdder(impl.Adder{Tail: x}, impl.Adder{})
			want(t, "SameAdder without Tails", same, true)
			rest, code := impl.FinishAdder(impl.Adder{Size: 4, Hop: 2, Tail: x})
			wantSignal(t, "FinishAdder of nothing", rest, code)
		}
		narrowGot, four := impl.ApplyNarrowWindow(nil, []float32{})
		want(t, "ApplyNarrowWindow of nothing", len(narrowGot), 0)
		want(t, "codes", [4]int64{one, two, three, four}, [4]int64{})
	}
	for _, blocks := range [][][]complex128{nil, {}} {
		got, code := impl.OverlapAdd(blocks, 3)
		wantSignal(t, "OverlapAdd of nothing", got, code)
		got, code = impl.RebuildSignal(blocks, []float64{1, 2, 3}, 3)
		wantSignal(t, "RebuildSignal of nothing", got, code)
	}
}

func TestPromise1VeryLongWindowsAndBlocks(t *testing.T) {
	x, w := make([]complex128, 500000), make([]float64, 500000)
	narrow, narrowWindow := make([]complex64, 500000), make([]float32, 500000)
	empty, long := make([][]complex128, 1000000), [][]complex128{x, x}
	adder := impl.Adder{Size: 4, Hop: 2, Tail: x}
	for name, results := range map[string][]any{
		"GainOf":            pack(impl.GainOf(w)),
		"PowerOf":           pack(impl.PowerOf(w)),
		"ApplyWindow":       pack(impl.ApplyWindow(x, w)),
		"NarrowWindow":      pack(impl.NarrowWindow(w)),
		"ApplyNarrowWindow": pack(impl.ApplyNarrowWindow(narrow, narrowWindow)),
		"OverlapSums":       pack(impl.OverlapSums(w, 1)),
		"RippleOf":          pack(impl.RippleOf(w, 1)),
		"FlatWindow":        pack(impl.FlatWindow(w, 1)),
		"BlocksOf":          pack(impl.BlocksOf(x, 2, 1)),
		"WindowedBlocks":    pack(impl.WindowedBlocks(x, w, 1)),
		"OverlapAdd":        pack(impl.OverlapAdd(empty, 1)),
		"OverlapAdd, long":  pack(impl.OverlapAdd(long, 1)),
		"WindowWeights":     pack(impl.WindowWeights(w, 2, 1)),
		"RebuildSignal":     pack(impl.RebuildSignal(empty, []float64{1}, 1)),
		"AddBlock":          pack(impl.AddBlock(adder, x)),
	} {
		want(t, name, lastCode(results), impl.ErrLimit)
	}
	_, told, one := impl.AddBlock(adder, x[:4])
	rest, two := impl.FinishAdder(adder)
	want(t, "codes of a long Tail", [2]int64{one, two}, [2]int64{impl.ErrInvalid, impl.ErrInvalid})
	want(t, "told of a long Tail", [2]int{len(told), len(rest)}, [2]int{})
	want(t, "ValidAdder", impl.ValidAdder(adder), false)
	want(t, "SameAdder", impl.SameAdder(adder, adder), true)
}

func TestPromise1ConstantsOfWindows(t *testing.T) {
	want(t, "kinds", [6]int{impl.WdRect, impl.WdTriangle, impl.WdHann, impl.WdHamming, impl.WdSine, impl.WdBlackman}, [6]int{1, 2, 3, 4, 5, 6})
	want(t, "MaxFrames", impl.MaxFrames, 64)
}
