package tests

import (
	"fmt"
	"slices"
	"testing"

	"loop.example/g01155/impl"
)

// tidiedOnTheWay is the plan that is tidied, written down and read.
func tidiedOnTheWay(t *testing.T, p impl.Plan) impl.Plan {
	t.Helper()
	tidy, one := impl.TidyPlan(p)
	read, two := impl.ReadPlan(impl.PlanText(tidy))
	want(t, "TidyPlan and ReadPlan: codes", [2]int64{one, two}, [2]int64{impl.OK, impl.OK})
	want(t, "ReadPlan", impl.SamePlan(read, tidy), true)
	return read
}

// resumed starts an engine, and pushes blocks of both widths; ahead of each, the
// engine is written down and read. It tells what is made, and whether a limit of
// the engine was reached.
func resumed(t *testing.T, p impl.Plan, blocks [][]complex128) ([]complex128, []complex64, bool) {
	t.Helper()
	e, code := impl.StartEngine(p)
	want(t, "StartEngine: code", code, impl.OK)
	narrowEngine := e
	var all []complex128
	var allNarrow []complex64
	for _, block := range blocks {
		next, made, one := impl.PushInto(wantRead(t, impl.EngineText(e)), block)
		narrowNext, narrowMade, two := impl.PushNarrowInto(wantRead(t, impl.EngineText(narrowEngine)), narrowed(block))
		want(t, "codes of both widths", two, one)
		if one != impl.OK {
			want(t, "code", one, impl.ErrLimit)
			return nil, nil, false
		}
		e, narrowEngine = next, narrowNext
		all, allNarrow = append(all, made...), append(allNarrow, narrowMade...)
	}
	return all, allNarrow, true
}

// wantWhole asks that a plan makes of blocks what it makes of the whole signal,
// as it is and tidied, in both widths.
func wantWhole(t *testing.T, texts []string, blocks [][]complex128) {
	t.Helper()
	p, x := planFrom(t, texts...), slices.Concat(blocks...)
	whole, one := impl.RunPlan(p, x)
	narrowWhole, two := impl.RunNarrow(p, narrowed(x))
	want(t, "RunPlan and RunNarrow: codes", two, one)
	if one != impl.OK {
		return
	}
	name := fmt.Sprint(texts, " in ", lengthsOf(blocks))
	for _, each := range []impl.Plan{p, tidiedOnTheWay(t, p)} {
		all, allNarrow, ok := resumed(t, each, blocks)
		want(t, name+": no limit", ok, true)
		wantSignal(t, name, all, impl.OK, whole...)
		wantSignal(t, name+", narrow", widened(allNarrow), impl.OK, widened(narrowWhole)...)
	}
}

// TestPromise21PlansMakeTheWhole has plans that are tidied, cut anywhere, written
// down and resumed.
func TestPromise21PlansMakeTheWhole(t *testing.T) {
	d := &draws{state: 211}
	for _, texts := range slices.Concat(bothDrawn(250), plansToCut(), inPlans(stepsToCut())) {
		for _, x := range [][]complex128{ruledSignal(int(d.next(60))), oddChainSignal(), drawnNumbers(100)} {
			wantWhole(t, texts, drawnCut(d, x))
		}
	}
}

// TestPromise21EveryCut has each cut of a short signal.
func TestPromise21EveryCut(t *testing.T) {
	x := []complex128{1, complex(inf, minus0), 0.1 + 3i, complex(nan, least), -2, complex(1e300, 0x1p-150)}
	for _, texts := range plansToCut() {
		for _, blocks := range allCuts(x) {
			wantWhole(t, texts, blocks)
		}
	}
}

// TestPromise21PlansJoinedOnTheWay cuts the plans, too: what one engine makes is
// pushed into the next one.
func TestPromise21PlansJoinedOnTheWay(t *testing.T) {
	d := &draws{state: 212}
	for _, texts := range append(bothDrawn(200), plansToCut()...) {
		at := d.next(int64(len(texts)) + 1)
		first, second := planFrom(t, texts[:at]...), planFrom(t, texts[at:]...)
		both, code := impl.JoinPlans(first, second)
		want(t, "JoinPlans: code", code, impl.OK)
		x := ruledSignal(int(d.next(100)))
		whole, code := impl.RunPlan(both, x)
		if code != impl.OK {
			continue
		}
		var made []complex128
		one, _ := impl.StartEngine(tidiedOnTheWay(t, first))
		other, _ := impl.StartEngine(tidiedOnTheWay(t, second))
		for _, block := range drawnCut(d, x) {
			var between, end []complex128
			one, between, code = impl.PushInto(wantRead(t, impl.EngineText(one)), block)
			want(t, "PushInto: code", code, impl.OK)
			other, end, code = impl.PushInto(wantRead(t, impl.EngineText(other)), between)
			want(t, "PushInto: code", code, impl.OK)
			made = append(made, end...)
		}
		wantSignal(t, fmt.Sprint(texts[:at], " and ", texts[at:]), made, impl.OK, whole...)
	}
}

// TestPromise21FiltersAreConvolutions holds a step filter against Convolve with
// its taps as sixteenths. These have the imaginary part 0, and so a product of
// Convolve may have another sign where it is 0; but for this all bits are held.
func TestPromise21FiltersAreConvolutions(t *testing.T) {
	d := &draws{state: 213}
	signals := [][]complex128{nil, {1}, {complex(minus0, minus0)}, ruledSignal(7), ruledSignal(40), drawnNumbers(249), {complex(great, -great), complex(least, minus0), complex(-least, great), 0, 1e300i, complex(0x1p-1022, 3)}}
	for range 400 {
		var taps []complex128
		text := "filter"
		for range 1 + d.next(8) {
			tap := d.part()
			text += fmt.Sprint(" ", tap)
			taps = append(taps, complex(float64(tap)/16, 0))
		}
		p := planFrom(t, text)
		for _, x := range signals {
			made, one := impl.RunPlan(p, x)
			folded, two := impl.Convolve(x, taps)
			want(t, text+": codes", [2]int64{one, two}, [2]int64{impl.OK, impl.OK})
			want(t, text+": length", len(made), len(x))
			wantEqualNumbers(t, text, made, folded[:len(x)])
			e, pushedAll := startOf(t, text), []complex128{}
			f, _ := impl.NewFilter(taps)
			for _, block := range drawnCut(d, x) {
				next, some, code := impl.PushInto(e, block)
				want(t, text+": code", code, impl.OK)
				nextFilter, told, code := impl.PushFilter(f, block)
				want(t, text+": code", code, impl.OK)
				wantEqualNumbers(t, text+" in pieces", some, told)
				e, f, pushedAll = next, nextFilter, append(pushedAll, some...)
			}
			wantSignal(t, text+" in blocks", pushedAll, impl.OK, made...)
		}
	}
}

// wantEqualNumbers asks for the same numbers, but for signs of 0.
func wantEqualNumbers(t *testing.T, name string, got, expected []complex128) {
	t.Helper()
	want(t, name+": count", len(got), len(expected))
	for i := range min(len(got), len(expected)) {
		first := real(got[i]) == real(expected[i]) || sameReal(real(got[i]), real(expected[i]))
		second := imag(got[i]) == imag(expected[i]) || sameReal(imag(got[i]), imag(expected[i]))
		if !first || !second {
			t.Errorf("%s: got %v, want %v at %d", name, got[i], expected[i], i)
		}
	}
}

// throughTheStore are deeds with losses, copies, spoilt parcels and crashes,
// and those behind which all rooms have all takes.
func throughTheStore(t *testing.T, d *draws, s impl.Studio) []impl.Deed {
	t.Helper()
	deeds := deedsFrom(t, drawnDeeds(d, s, 120)...)
	deeds = append(deeds, deedsFrom(t, "send 0 0 0", "spoil 0 5", "copy 0", "deliver 0", "crash 0")...)
	list, code := impl.FinishDeeds(s, deeds)
	want(t, "FinishDeeds: code", code, impl.OK)
	return slices.Concat(deeds, list, deedsFrom(t, "crash 0", "send 0 0 0", "spoil 0 9", "copy 0", "crash 0"))
}

// studiosToProcess have takes of any numbers.
func studiosToProcess(d *draws) []impl.Studio {
	odd := oddChainSignal()
	pieces := func(x []complex128) impl.Take { return impl.Take{Pieces: slices.Collect(slices.Chunk(x, 6))} }
	narrow := func(x []complex128) impl.Take {
		return impl.Take{Narrow: true, Pieces: slices.Collect(slices.Chunk(x, 5))}
	}
	studios := []impl.Studio{
		studioOf(3, pieces(odd[:36]), narrow(odd[:30]), pieces(odd[40:]), narrow(odd[46:])), studioOf(2, pieces(ruledSignal(33)), narrow(ruledSignal(29)), pieces(drawnNumbers(36)), impl.Take{}), twoTakes(), exampleStudio(),
	}
	for range 20 {
		studios = append(studios, drawnStudio(d))
	}
	return studios
}

// TestPromise21StoredTakesAreProcessedAsTheTakes runs plans on what rooms have.
func TestPromise21StoredTakesAreProcessedAsTheTakes(t *testing.T) {
	d := &draws{state: 214}
	plans := slices.Concat(bothDrawn(12), plansToCut())
	for _, s := range studiosToProcess(d) {
		deeds := throughTheStore(t, d, s)
		for room := range s.Rooms {
			for i, take := range s.Takes {
				x := slices.Concat(take.Pieces...)
				if take.Narrow {
					x = widened(narrowed(x))
				}
				stored, one := impl.TakeAt(s, deeds, room, int64(i))
				narrowStored, two := impl.NarrowTakeAt(s, deeds, room, int64(i))
				wantSignal(t, "TakeAt", stored, one, x...)
				wantSignal(t, "NarrowTakeAt", widened(narrowStored), two, widened(narrowed(x))...)
				for _, texts := range plans {
					wantProcessed(t, texts, stored, narrowStored, x)
				}
			}
		}
	}
}

// wantProcessed asks that a plan makes the same of a stored take and of the take.
func wantProcessed(t *testing.T, texts []string, stored []complex128, narrowStored []complex64, x []complex128) {
	t.Helper()
	p := planFrom(t, texts...)
	whole, code := impl.RunPlan(p, x)
	made, madeCode := impl.RunPlan(p, stored)
	narrowWhole, narrowCode := impl.RunNarrow(p, narrowed(x))
	narrowMade, narrowMadeCode := impl.RunNarrow(p, narrowStored)
	want(t, "codes", [3]int64{madeCode, narrowCode, narrowMadeCode}, [3]int64{code, code, code})
	wantSignal(t, fmt.Sprint(texts, " of what is stored"), made, impl.OK, whole...)
	wantSignal(t, fmt.Sprint(texts, " of what is stored, narrow"), widened(narrowMade), impl.OK, widened(narrowWhole)...)
}

// TestPromise21RecordsAreProcessedAsTheTakes writes the records of a room to a
// journal, reads them, and pushes them into a tidy plan one by one.
func TestPromise21RecordsAreProcessedAsTheTakes(t *testing.T) {
	d := &draws{state: 215}
	for _, s := range studiosToProcess(d) {
		h, _, code := impl.HouseAfter(s, throughTheStore(t, d, s))
		want(t, "HouseAfter: code", code, impl.OK)
		for _, room := range h.Rooms {
			records, code := impl.ReadJournal(impl.JournalText(room.Records) + "wide 0 0 3ff0")
			want(t, "ReadJournal", [2]int64{int64(len(records)), code}, [2]int64{int64(len(room.Records)), impl.OK})
			want(t, "synced", room.Synced, int64(len(records)))
			slices.SortFunc(records, func(r, q impl.Record) int { return int(r.Take*1000 + r.Piece - q.Take*1000 - q.Piece) })
			for i, take := range s.Takes {
				var blocks [][]complex128
				for _, r := range records {
					if r.Take == int64(i) {
						blocks = append(blocks, append(slices.Clone(r.Wide), widened(r.Narrow)...))
					}
				}
				wantTakeInRecords(t, take, blocks)
				for _, texts := range plansToCut() {
					wantWhole(t, texts, blocks)
				}
			}
		}
	}
}

func wantTakeInRecords(t *testing.T, take impl.Take, blocks [][]complex128) {
	t.Helper()
	want(t, "records of a take", len(blocks), len(take.Pieces))
	for i, piece := range take.Pieces {
		if take.Narrow {
			piece = widened(narrowed(piece))
		}
		wantSignal(t, "a record", blocks[i], impl.OK, piece...)
	}
}
