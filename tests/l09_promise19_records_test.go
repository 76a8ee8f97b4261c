package tests

import (
	"fmt"
	"math"
	"slices"
	"testing"

	"loop.example/g01155/impl"
)

// takeOf has pieces of so many numbers each.
func takeOf(lengths ...int) impl.Take {
	var take impl.Take
	for _, n := range lengths {
		take.Pieces = append(take.Pieces, drawnNumbers(n))
	}
	return take
}

func studioOf(rooms int64, takes ...impl.Take) impl.Studio {
	return impl.Studio{Rooms: rooms, Takes: takes}
}

// validStudios are those at the limits, and within them.
func validStudios() []impl.Studio {
	full := takeOf(6, 6, 6, 6, 6, 6)
	return []impl.Studio{
		studioOf(1), studioOf(3), {Rooms: 2, Takes: []impl.Take{}}, studioOf(1, impl.Take{}), studioOf(1, impl.Take{Narrow: true}), studioOf(1, impl.Take{Pieces: [][]complex128{}}),
		exampleStudio(), studioOf(2, takeOf(1, 6), takeOf(), takeOf(3)), studioOf(3, full, full, full, full), studioOf(1, takeOf(), takeOf(), takeOf(), takeOf()),
	}
}

// invalidStudios are those beyond the limits.
func invalidStudios() []impl.Studio {
	one := takeOf(1)
	return []impl.Studio{
		{}, studioOf(0), studioOf(0, one), studioOf(-1, one), studioOf(4, one), studioOf(math.MinInt64, one), studioOf(math.MaxInt64, one), studioOf(1<<32+1, one),
		studioOf(1, one, one, one, one, one), studioOf(1, takeOf(1, 1, 1, 1, 1, 1, 1)), studioOf(1, takeOf(0)), studioOf(1, takeOf(7)),
		studioOf(1, one, takeOf(1, 0, 1)), studioOf(1, takeOf(1, 1, 1, 1, 1, 0)), studioOf(3, one, one, one, takeOf(1, 1, 1, 1, 1, 7)), studioOf(1, impl.Take{Narrow: true, Pieces: [][]complex128{{}}}), studioOf(1, impl.Take{Pieces: [][]complex128{nil}}),
	}
}

// wantInvalidStudio asks all functions of a studio for ErrInvalid, also where
// there are other errors.
func wantInvalidStudio(t *testing.T, s impl.Studio) {
	t.Helper()
	want(t, "ValidStudio", impl.ValidStudio(s), false)
	many := slices.Repeat([]impl.Deed{{Kind: impl.DdCrash}}, 301)
	for _, deeds := range [][]impl.Deed{nil, many, {{}}} {
		for _, place := range []int64{0, 9, -1} {
			r, code := impl.RecordOf(s, place, place)
			wantNoRecord(t, "RecordOf", r, code, impl.ErrInvalid)
			wantDeedErrors(t, s, deeds, place, place, impl.ErrInvalid, impl.ErrInvalid, impl.ErrInvalid)
		}
	}
	for _, text := range []string{"", "records 0\n", string(make([]byte, 20001))} {
		answers, code := impl.RunScript(s, text)
		want(t, "RunScript", answers, "")
		want(t, "RunScript: code", code, impl.ErrInvalid)
	}
}

// wantDeedErrors asks the functions of deeds, of deeds and a room, and of deeds,
// a room and a take for errors with which nothing is told.
func wantDeedErrors(t *testing.T, s impl.Studio, deeds []impl.Deed, room, take, ofDeeds, ofRoom, ofTake int64) {
	t.Helper()
	h, done, one := impl.HouseAfter(s, deeds)
	at, bad, two := impl.RefusedDeed(s, deeds)
	list, three := impl.FinishDeeds(s, deeds)
	if ofDeeds != impl.OK {
		want(t, "HouseAfter", [4]int64{int64(len(h.Rooms)), int64(len(h.Wire)), done, one}, [4]int64{0, 0, 0, ofDeeds})
		want(t, "RefusedDeed", [3]int64{at, bad, two}, [3]int64{0, 0, ofDeeds})
		wantCode(t, "FinishDeeds", list, three, ofDeeds)
	}
	missing, code := impl.MissingAt(s, deeds, room)
	if ofRoom != impl.OK {
		wantCode(t, "MissingAt", missing, code, ofRoom)
	}
	x, code := impl.TakeAt(s, deeds, room, take)
	wantCode(t, "TakeAt", x, code, ofTake)
	narrow, code := impl.NarrowTakeAt(s, deeds, room, take)
	wantCode(t, "NarrowTakeAt", narrow, code, ofTake)
}

// wantNoRecord asks for an error with which no record is told.
func wantNoRecord(t *testing.T, name string, got impl.Record, code, expected int64) {
	t.Helper()
	want(t, name, recordLine(got), "none 0 0")
	want(t, name+": code", code, expected)
}

func TestPromise19Studios(t *testing.T) {
	for i, s := range validStudios() {
		want(t, fmt.Sprint("ValidStudio ", i), impl.ValidStudio(s), true)
		_, done, code := impl.HouseAfter(s, nil)
		want(t, "HouseAfter", [2]int64{done, code}, [2]int64{0, impl.OK})
	}
	for _, s := range invalidStudios() {
		wantInvalidStudio(t, s)
	}
}

// TestPromise19RecordsOfStudios holds records of pieces against their texts.
func TestPromise19RecordsOfStudios(t *testing.T) {
	d := &draws{state: 94}
	studios := validStudios()
	for range 200 {
		studios = append(studios, drawnStudio(d))
	}
	for _, s := range studios {
		for take := int64(-2); take < 8; take++ {
			for piece := int64(-2); piece < 9; piece++ {
				name := fmt.Sprint("RecordOf ", take, " ", piece)
				r, code := impl.RecordOf(s, take, piece)
				expected := toldRecord(s, take, piece)
				if expected == "" {
					wantNoRecord(t, name, r, code, impl.ErrRange)
					continue
				}
				want(t, name+": code", code, impl.OK)
				want(t, name, recordLine(r), expected)
				want(t, name+": valid", impl.ValidRecord(r), true)
			}
		}
		for _, place := range oddIntegers() {
			if place < 0 || place > 6 {
				r, code := impl.RecordOf(s, place, 0)
				wantNoRecord(t, "RecordOf a take that is none", r, code, impl.ErrRange)
				r, code = impl.RecordOf(s, 0, place)
				wantNoRecord(t, "RecordOf a piece that is none", r, code, impl.ErrRange)
			}
		}
	}
}

// TestPromise19RecordsOfAnyNumbers sends numbers of every kind, in both widths.
func TestPromise19RecordsOfAnyNumbers(t *testing.T) {
	for x := range slices.Chunk(anyNumbers(), 6) {
		s := studioOf(1, impl.Take{Pieces: [][]complex128{x}}, impl.Take{Narrow: true, Pieces: [][]complex128{x}})
		wide, one := impl.RecordOf(s, 0, 0)
		narrow, two := impl.RecordOf(s, 1, 0)
		wantSignal(t, "RecordOf a wide take", wide.Wide, one, x...)
		want(t, "RecordOf a wide take: no Narrow", len(wide.Narrow), 0)
		wantSignal(t, "RecordOf a narrow take", widened(narrow.Narrow), two, widened(narrowed(x))...)
		want(t, "RecordOf a narrow take: no Wide", len(narrow.Wide), 0)
		want(t, "RecordOf a wide take: text", recordLine(wide), toldRecord(s, 0, 0))
		want(t, "RecordOf a narrow take: text", recordLine(narrow), toldRecord(s, 1, 0))
	}
}

func wideRecord(take, piece int64, count int) impl.Record {
	return impl.Record{Take: take, Piece: piece, Wide: drawnNumbers(count)}
}

func narrowRecord(take, piece int64, count int) impl.Record {
	return impl.Record{Take: take, Piece: piece, Narrow: narrowed(drawnNumbers(count))}
}

func validRecords() []impl.Record {
	var list []impl.Record
	for _, take := range []int64{0, 1, 3, 4, 998, 999} {
		for _, piece := range []int64{0, 1, 6, 999} {
			for _, count := range []int{1, 2, 5, 6} {
				list = append(list, wideRecord(take, piece, count), narrowRecord(take, piece, count))
			}
		}
	}
	return append(list, impl.Record{Wide: []complex128{1}, Narrow: []complex64{}}, impl.Record{Narrow: []complex64{1}, Wide: []complex128{}})
}

func invalidRecords() []impl.Record {
	list := []impl.Record{
		{}, {Take: 1, Piece: 1}, {Wide: []complex128{}, Narrow: []complex64{}}, wideRecord(0, 0, 7), narrowRecord(0, 0, 7), wideRecord(0, 0, 0), narrowRecord(0, 0, 300),
		{Wide: []complex128{1}, Narrow: []complex64{1}}, {Wide: drawnNumbers(6), Narrow: narrowed(drawnNumbers(6))}, {Wide: drawnNumbers(7), Narrow: narrowed(drawnNumbers(1))}, {Wide: drawnNumbers(1), Narrow: narrowed(drawnNumbers(7))},
	}
	for _, n := range append(oddIntegers(), 1000, 999+1<<32, -999) {
		if n < 0 || n > 999 {
			list = append(list, wideRecord(n, 0, 1), wideRecord(0, n, 1), narrowRecord(n, 0, 1), narrowRecord(0, n, 1), wideRecord(n, n, 6))
		}
	}
	return list
}

func TestPromise19ValidRecords(t *testing.T) {
	for _, r := range validRecords() {
		want(t, "ValidRecord "+recordLine(r), impl.ValidRecord(r), true)
		check, code := impl.CheckOf(r)
		want(t, "CheckOf: code", code, impl.OK)
		want(t, "CheckOf "+recordLine(r), check, toldCheck(recordLine(r)))
		want(t, "RecordText", impl.RecordText(r), recordLine(r))
	}
	for _, r := range invalidRecords() {
		wantInvalidRecord(t, r)
	}
}

// wantInvalidRecord asks all functions of a record, also where there are other
// errors.
func wantInvalidRecord(t *testing.T, r impl.Record) {
	t.Helper()
	name := recordLine(r)
	want(t, "ValidRecord "+name, impl.ValidRecord(r), false)
	check, code := impl.CheckOf(r)
	want(t, "CheckOf "+name, check, 0)
	want(t, "CheckOf: code", code, impl.ErrInvalid)
	for _, bit := range []int64{0, 31, 32, 63, 64, -1} {
		spoilt, code := impl.SpoilRecord(r, bit)
		wantNoRecord(t, "SpoilRecord "+name, spoilt, code, impl.ErrInvalid)
	}
	want(t, "RecordText "+name, impl.RecordText(r), "")
	want(t, "SameRecord as itself "+name, impl.SameRecord(r, r), true)
	good := wideRecord(1, 2, 3)
	for _, list := range [][]impl.Record{{r}, {good, r}, {r, good}, {good, r, good}} {
		want(t, "JournalText "+name, impl.JournalText(list), "")
	}
}

// oddRecords differ from each other in one thing, or in a few.
func oddRecords() []impl.Record {
	list := []impl.Record{
		{}, {Take: 1}, {Piece: 1}, {Take: -1}, {Take: 1, Piece: 1}, {Take: 1 << 40},
		{Wide: []complex128{1}}, {Narrow: []complex64{1}}, {Wide: []complex128{1}, Narrow: []complex64{1}}, {Wide: []complex128{1, 1}}, {Narrow: []complex64{1, 1}}, {Take: 1, Wide: []complex128{1}}, {Piece: 1, Narrow: []complex64{1}},
		{Wide: make([]complex128, 300)}, {Narrow: make([]complex64, 300)}, {Wide: make([]complex128, 299)},
	}
	for _, x := range fewNumbers() {
		list = append(list, impl.Record{Wide: []complex128{x}}, impl.Record{Wide: []complex128{2, x}})
	}
	for _, a := range []float64{0, minus0, 1, least, 0x1p-149, inf, -inf, nan} {
		list = append(list, impl.Record{Narrow: []complex64{complex(float32(a), 5)}}, impl.Record{Narrow: []complex64{2, complex(5, float32(a))}})
	}
	return list
}

// TestPromise19SameRecords holds records against each other by their texts, which
// tell all bits.
func TestPromise19SameRecords(t *testing.T) {
	list := append(oddRecords(), validRecords()...)
	var lines []string
	for _, r := range list {
		lines = append(lines, recordLine(r))
	}
	for i, r := range list {
		for k, q := range list {
			isSame := lines[i] == lines[k]
			if impl.SameRecord(r, q) != isSame {
				t.Errorf("SameRecord of %d and %d: got %v of %s and %s", i, k, !isSame, lines[i], lines[k])
			}
		}
	}
	for _, a := range []float64{nan, otherNaN, -nan} {
		r := impl.Record{Wide: []complex128{complex(a, nan)}}
		want(t, "SameRecord with NaN", impl.SameRecord(r, impl.Record{Wide: []complex128{complex(nan, otherNaN)}, Narrow: []complex64{}}), true)
	}
	odd := math.Float32frombits(0xff800001)
	want(t, "SameRecord with narrow NaN", impl.SameRecord(impl.Record{Narrow: []complex64{complex(odd, 1)}}, impl.Record{Narrow: []complex64{complex(float32(nan), 1)}, Wide: []complex128{}}), true)
}

// TestPromise19BitsOfRecords holds texts, checks and what is spoilt against a
// program outside of this one.
func TestPromise19BitsOfRecords(t *testing.T) {
	d := &draws{state: 91}
	hash := hashOf(func(yield func(string) bool) {
		for range 150 {
			s := drawnStudio(d)
			for i, take := range s.Takes {
				for k := range take.Pieces {
					r, _ := impl.RecordOf(s, int64(i), int64(k))
					if !recordLines(yield, d, r) {
						return
					}
				}
			}
		}
	})
	want(t, "hash of records", hash, 0xae8c5952cf5820ba)
}

// recordLines are those of a record, of those with a bit that is spoilt, and of
// one that is spoilt twice.
func recordLines(yield func(string) bool, d *draws, r impl.Record) bool {
	list, count := []impl.Record{r}, int64(64)
	if len(r.Narrow) != 0 {
		count = 32
	}
	for bit := range count {
		spoilt, _ := impl.SpoilRecord(r, bit)
		list = append(list, spoilt)
	}
	once, _ := impl.SpoilRecord(r, d.next(count))
	twice, _ := impl.SpoilRecord(once, d.next(count))
	for _, each := range append(list, twice) {
		check, _ := impl.CheckOf(each)
		if !yield(impl.RecordText(each)) || !yield(fmt.Sprint(check)) {
			return false
		}
	}
	return true
}
