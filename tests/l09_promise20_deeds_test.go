package tests

import (
	"fmt"
	"slices"
	"strings"
	"testing"

	"loop.example/g01155/impl"
)

// twoTakes has three rooms, a wide take of two pieces and a narrow one of one
// piece, and a take of none.
func twoTakes() impl.Studio {
	return studioOf(3,
		impl.Take{Pieces: [][]complex128{{0.1, complex(nan, minus0)}, {complex(inf, 3)}}},
		impl.Take{Narrow: true, Pieces: [][]complex128{{complex(0.1, 1e300), 2}}},
		impl.Take{},
	)
}

// wantDeeds does deeds one by one and looks at all functions behind them.
func wantDeeds(t *testing.T, s impl.Studio, texts ...string) {
	t.Helper()
	deeds := deedsFrom(t, texts...)
	told := toldHouseOf(s)
	done, refused, code := int64(0), int64(0), int64(impl.ErrNotFound)
	bad := int64(0)
	for i, text := range texts {
		each := told.do(text)
		if each == impl.OK {
			done++
		} else if code != impl.OK {
			refused, bad, code = int64(i), each, impl.OK
		}
	}
	name := fmt.Sprint(strings.Join(texts, ", "), ": ")
	h, gotDone, one := impl.HouseAfter(s, deeds)
	want(t, name+"HouseAfter", houseLines(h), told.lines())
	want(t, name+"HouseAfter: done", [2]int64{gotDone, one}, [2]int64{done, impl.OK})
	at, gotBad, two := impl.RefusedDeed(s, deeds)
	want(t, name+"RefusedDeed", [3]int64{at, gotBad, two}, [3]int64{refused, bad, code})
	for room := range s.Rooms {
		wantRoom(t, name, s, deeds, told, room)
	}
	wantPieces(t, name, s, h)
	wantFinished(t, name, s, deeds, told)
}

// wantRoom looks at what a room has, and has not.
func wantRoom(t *testing.T, name string, s impl.Studio, deeds []impl.Deed, told *toldHouse, room int64) {
	t.Helper()
	missing, code := impl.MissingAt(s, deeds, room)
	var names []string
	for _, each := range missing {
		want(t, name+"MissingAt: a pair", len(each), 2)
		names = append(names, strings.Trim(fmt.Sprint(each), "[]"))
	}
	want(t, name+"MissingAt", linesOf(names), linesOf(told.missing(room)))
	want(t, name+"MissingAt: code", code, impl.OK)
	for take := range s.Takes {
		x, one := impl.TakeAt(s, deeds, room, int64(take))
		narrow, two := impl.NarrowTakeAt(s, deeds, room, int64(take))
		_, expected := told.takeText(room, int64(take))
		if expected != impl.OK {
			wantCode(t, name+"TakeAt", x, one, expected)
			wantCode(t, name+"NarrowTakeAt", narrow, two, expected)
			continue
		}
		whole := slices.Concat(s.Takes[take].Pieces...)
		if s.Takes[take].Narrow {
			whole = widened(narrowed(whole))
		}
		wantSignal(t, name+"TakeAt", x, one, whole...)
		wantSignal(t, name+"NarrowTakeAt", widened(narrow), two, widened(narrowed(whole))...)
	}
}

// wantPieces asks that each record of a room is RecordOf its piece, and that all
// that is on the wire is valid.
func wantPieces(t *testing.T, name string, s impl.Studio, h impl.House) {
	t.Helper()
	want(t, name+"rooms", int64(len(h.Rooms)), s.Rooms)
	for _, room := range h.Rooms {
		want(t, name+"synced", room.Synced >= 0 && room.Synced <= int64(len(room.Records)), true)
		for _, r := range room.Records {
			piece, code := impl.RecordOf(s, r.Take, r.Piece)
			want(t, name+"RecordOf: code", code, impl.OK)
			want(t, name+"a record is that of its piece", impl.SameRecord(r, piece), true)
		}
	}
	for _, p := range h.Wire {
		check, code := impl.CheckOf(p.Record)
		piece, _ := impl.RecordOf(s, p.Record.Take, p.Record.Piece)
		want(t, name+"CheckOf: code", code, impl.OK)
		want(t, name+"what is spoilt is found", check == p.Check, impl.SameRecord(p.Record, piece))
	}
}

// wantFinished looks at FinishDeeds, and at what is behind it.
func wantFinished(t *testing.T, name string, s impl.Studio, deeds []impl.Deed, told *toldHouse) {
	t.Helper()
	list, code := impl.FinishDeeds(s, deeds)
	texts := told.finish()
	if len(texts)+len(deeds) > 300 {
		wantCode(t, name+"FinishDeeds", list, code, impl.ErrLimit)
		return
	}
	want(t, name+"FinishDeeds", deedLines(list), linesOf(texts))
	want(t, name+"FinishDeeds: code", code, impl.OK)
	all := slices.Concat(deeds, list)
	h, done, code := impl.HouseAfter(s, all)
	_, before, _ := impl.HouseAfter(s, deeds)
	want(t, name+"all further deeds are done", [2]int64{done, code}, [2]int64{before + int64(len(list)), impl.OK})
	want(t, name+"the wire is empty", len(h.Wire), 0)
	pieces := 0
	for _, take := range s.Takes {
		pieces += len(take.Pieces)
	}
	for room := range s.Rooms {
		want(t, name+"records", len(h.Rooms[room].Records), pieces)
		want(t, name+"synced", h.Rooms[room].Synced, int64(pieces))
		missing, code := impl.MissingAt(s, all, room)
		want(t, name+"MissingAt: nothing", [2]int64{int64(len(missing)), code}, [2]int64{0, impl.OK})
	}
	wantPieces(t, name, s, h)
}

// TestPromise20EachDeed has deeds that can be done and those that cannot, in the
// order of their errors.
func TestPromise20EachDeed(t *testing.T) {
	for _, texts := range strings.Split(`
send 0 0 0;send 0 0 0,deliver 0;send 2 1 0,deliver 0;send 0 0 1,send 1 0 1,deliver 1,deliver 0
send 3 0 0;send 0 3 0;send 0 0 2;send 0 1 1;send 0 2 0;send 999 999 999;send 3 9 9
pass 0 0 1;send 0 0 0,pass 0 0 1;send 0 0 0,deliver 0,pass 0 0 1;send 0 0 0,deliver 0,pass 0 0 1,deliver 0;send 0 0 0,deliver 0,pass 0 0 0
send 0 0 0,deliver 0,pass 0 1 1;send 0 0 0,deliver 0,pass 1 0 0;send 0 0 0,deliver 0,pass 3 0 0;send 0 0 0,deliver 0,pass 0 0 3;send 0 0 0,deliver 0,pass 0 999 1,pass 999 0 1,pass 999 999 999,pass 3 0 3
send 0 0 0,deliver 0,send 0 0 1,deliver 0,send 0 1 0,deliver 0,pass 0 2 1,pass 0 1 1,pass 0 0 2,pass 0 3 2,deliver 0,deliver 0,pass 1 0 0,pass 1 1 2
deliver 0;copy 0;drop 0;spoil 0 0;deliver 999;send 0 0 0,deliver 1,copy 1,drop 1,spoil 1 0,deliver 0,deliver 0
send 0 0 0,copy 0;send 0 0 0,copy 0,copy 0;send 0 0 0,copy 0,deliver 0;send 0 0 0,copy 0,drop 0;send 0 0 0,drop 0,copy 0
send 0 0 0,send 0 0 0,deliver 0,deliver 0;send 0 0 0,send 0 0 0,deliver 1,copy 0;send 0 0 0,send 0 0 1,drop 0,deliver 0;send 0 0 0,send 0 0 1,send 0 1 0,drop 1,deliver 1,deliver 0
send 0 0 0,spoil 0 0,deliver 0;send 0 0 0,spoil 0 63,copy 0;send 0 0 0,spoil 0 64;send 0 0 0,spoil 0 999,deliver 0;send 0 1 0,spoil 0 31,deliver 0;send 0 1 0,spoil 0 32,deliver 0;send 0 1 0,spoil 0 63
send 0 0 0,spoil 0 5,spoil 0 5,deliver 0;send 0 0 0,spoil 0 5,spoil 0 6,deliver 0;send 0 0 0,spoil 0 5,copy 0,spoil 0 5,copy 0;send 0 1 0,spoil 0 0,spoil 0 0,deliver 0;send 0 0 1,spoil 0 3,spoil 0 3,copy 0,spoil 0 51,deliver 0
send 0 0 0,send 0 0 0,spoil 1 7,deliver 1,deliver 0;send 0 0 0,copy 0,spoil 0 1,pass 0 0 1,deliver 1,deliver 0
sync 0;sync 2;sync 3;crash 0;crash 2;crash 3;sync 999,crash 999
send 0 0 0,deliver 0,crash 0;send 0 0 0,deliver 0,sync 0,crash 0;send 0 0 0,deliver 0,sync 0,send 0 0 1,deliver 0,crash 0;send 0 0 0,deliver 0,sync 0,send 0 0 1,deliver 0,crash 0,crash 0,send 0 1 0,deliver 0,send 0 0 1,deliver 0
send 0 0 0,deliver 0,crash 0,sync 0,crash 0;send 0 0 0,deliver 0,sync 1,crash 0;send 0 0 0,deliver 0,sync 0,crash 1;send 0 0 0,deliver 0,sync 0,send 0 0 1,deliver 0,sync 0,crash 0;send 0 0 0,sync 0,deliver 0,crash 0;send 0 0 0,copy 0,sync 0,send 0 0 1,copy 1,crash 0,deliver 1,deliver 0,crash 0
send 0 0 0,copy 0,crash 0,copy 0,crash 0,deliver 0;send 0 0 0,deliver 0,pass 0 0 1,crash 0,deliver 0,pass 1 0 0,pass 0 0 1;send 0 0 0,deliver 0,pass 0 0 1,crash 0,deliver 0,pass 1 0 0,deliver 0,sync 0,crash 1,crash 0`, "\n") {
		for _, list := range strings.Split(texts, ";") {
			if list != "" {
				wantDeeds(t, twoTakes(), strings.Split(list, ",")...)
			}
		}
	}
	wantDeeds(t, twoTakes())
}

// TestPromise20FullWire has just MaxWire parcels, and a further one.
func TestPromise20FullWire(t *testing.T) {
	full := slices.Repeat([]string{"send 0 0 0"}, 12)
	for _, further := range [][]string{
		nil, {"send 0 0 0"}, {"send 0 0 0", "send 1 1 0"}, {"send 3 0 0"}, {"send 0 0 2"}, {"drop 11", "send 0 0 1", "send 0 0 1"}, {"drop 12"}, {"deliver 11", "pass 0 0 1", "pass 0 0 1", "pass 0 0 0", "pass 0 1 1"},
		{"copy 0", "pass 0 0 1"}, {"copy 0", "pass 0 0 1", "deliver 0", "pass 0 0 1", "pass 0 0 2", "spoil 11 0", "spoil 12 0"}, {"copy 11", "copy 12", "sync 0", "send 0 0 0", "crash 0"},
	} {
		texts := slices.Concat(full, further)
		wantDeeds(t, twoTakes(), texts...)
	}
	s := twoTakes()
	at, code, found := impl.RefusedDeed(s, deedsFrom(t, append(full, "send 0 0 0")...))
	want(t, "RefusedDeed of a further parcel", [3]int64{at, code, found}, [3]int64{12, impl.ErrLimit, impl.OK})
	at, code, found = impl.RefusedDeed(s, deedsFrom(t, append(full, "copy 0", "pass 0 0 2")...))
	want(t, "RefusedDeed of a passed record", [3]int64{at, code, found}, [3]int64{13, impl.ErrLimit, impl.OK})
	at, code, found = impl.RefusedDeed(s, deedsFrom(t, append(full, "send 0 9 0")...))
	want(t, "RefusedDeed of no piece", [3]int64{at, code, found}, [3]int64{12, impl.ErrRange, impl.OK})
	at, code, found = impl.RefusedDeed(s, deedsFrom(t, append(full, "pass 0 0 2")...))
	want(t, "RefusedDeed of no record", [3]int64{at, code, found}, [3]int64{12, impl.ErrRange, impl.OK})
	at, code, found = impl.RefusedDeed(s, deedsFrom(t, full...))
	want(t, "RefusedDeed of none", [3]int64{at, code, found}, [3]int64{0, 0, impl.ErrNotFound})
}

// TestPromise20ManyDeeds does drawn deeds in drawn studios.
func TestPromise20ManyDeeds(t *testing.T) {
	d := &draws{state: 97}
	studios := validStudios()
	for range 600 {
		studios = append(studios, drawnStudio(d))
	}
	for _, s := range studios {
		wantDeeds(t, s, drawnDeeds(d, s, d.next([]int64{10, 60, 301}[d.next(3)]))...)
	}
}

// TestPromise20DeedsOneByOne looks behind each deed.
func TestPromise20DeedsOneByOne(t *testing.T) {
	d := &draws{state: 98}
	for range 40 {
		s := drawnStudio(d)
		texts := drawnDeeds(d, s, 40)
		for i := range texts {
			wantDeeds(t, s, texts[:i]...)
		}
	}
}

// TestPromise20RoomsAndTakesThatAreNone has errors in their order.
func TestPromise20RoomsAndTakesThatAreNone(t *testing.T) {
	s := twoTakes()
	for _, deeds := range [][]impl.Deed{nil, deedsFrom(t, "send 0 0 0", "deliver 0"), slices.Repeat([]impl.Deed{{Kind: impl.DdSync}}, 300)} {
		for _, n := range append(oddIntegers(), 4) {
			if n < 0 || n > 2 {
				wantDeedErrors(t, s, deeds, n, 0, impl.OK, impl.ErrRange, impl.ErrRange)
				wantDeedErrors(t, s, deeds, n, 2, impl.OK, impl.ErrRange, impl.ErrRange)
				wantDeedErrors(t, s, deeds, 0, n, impl.OK, impl.OK, impl.ErrRange)
				wantDeedErrors(t, s, deeds, n, n, impl.OK, impl.ErrRange, impl.ErrRange)
			}
		}
		wantDeedErrors(t, s, deeds, 0, 0, impl.OK, impl.OK, impl.ErrNotFound)
		x, code := impl.TakeAt(s, deeds, 2, 2)
		wantSignal(t, "TakeAt without pieces", x, code)
	}
	none := studioOf(1)
	wantDeedErrors(t, none, nil, 0, 0, impl.OK, impl.OK, impl.ErrRange)
	wantDeedErrors(t, none, nil, 1, 0, impl.OK, impl.ErrRange, impl.ErrRange)
}

// TestPromise20MaxDeeds has just MaxDeeds deeds, and one more.
func TestPromise20MaxDeeds(t *testing.T) {
	s := twoTakes()
	texts := append([]string{"send 0 1 0", "deliver 0", "sync 0"}, slices.Repeat([]string{"copy 0", "crash 0", "crash 9"}, 99)...)
	want(t, "deeds", len(texts), 300)
	wantDeeds(t, s, texts...)
	more := deedsFrom(t, append(texts, "sync 0")...)
	wantDeedErrors(t, s, more, 0, 0, impl.ErrRange, impl.ErrRange, impl.ErrRange)
	wantDeedErrors(t, s, more, 7, 7, impl.ErrRange, impl.ErrRange, impl.ErrRange)
	wantDeedErrors(t, s, slices.Repeat(more, 3000), 0, 1, impl.ErrRange, impl.ErrRange, impl.ErrRange)
}

// TestPromise20FinishedDeeds has deeds that are just MaxDeeds together with those
// behind which all is there, and one more.
func TestPromise20FinishedDeeds(t *testing.T) {
	full := takeOf(6, 6, 6, 6, 6, 6)
	for _, s := range []impl.Studio{studioOf(1), exampleStudio(), twoTakes(), studioOf(3, full, full, full, full)} {
		for _, start := range [][]string{nil, {"send 0 0 0"}, {"send 0 0 0", "send 0 0 0", "spoil 0 0", "deliver 1", "deliver 9"}, slices.Repeat([]string{"send 0 0 0"}, 13)} {
			told := toldHouseOf(s)
			for _, text := range start {
				told.do(text)
			}
			idle := 300 - len(start) - len(told.finish())
			for _, count := range []int{0, 1, idle - 1, idle, idle + 1, 300 - len(start)} {
				deeds := slices.Concat(start, slices.Repeat([]string{"crash 9"}, count))
				list, code := impl.FinishDeeds(s, deedsFrom(t, deeds...))
				if count > idle {
					wantCode(t, "FinishDeeds of too many", list, code, impl.ErrLimit)
					continue
				}
				want(t, "FinishDeeds", deedLines(list), linesOf(told.finish()))
				want(t, "FinishDeeds: code", code, impl.OK)
			}
			wantDeeds(t, s, slices.Concat(start, slices.Repeat([]string{"sync 9"}, idle))...)
		}
	}
}

// TestPromise20BitsOfDeeds holds houses against a program outside of this one.
func TestPromise20BitsOfDeeds(t *testing.T) {
	d := &draws{state: 92}
	hash := hashOf(func(yield func(string) bool) {
		for range 1500 {
			s := drawnStudio(d)
			deeds := deedsFrom(t, drawnDeeds(d, s, d.next(120))...)
			for line := range strings.Lines(storeLines(s, deeds)) {
				if !yield(strings.TrimSuffix(line, "\n")) {
					return
				}
			}
		}
	})
	want(t, "hash of houses", hash, 0x98ec17606fb726fb)
}

// storeLines has what all functions tell behind deeds.
func storeLines(s impl.Studio, deeds []impl.Deed) string {
	h, done, _ := impl.HouseAfter(s, deeds)
	text := houseLines(h) + fmt.Sprintln("done", done)
	if at, bad, code := impl.RefusedDeed(s, deeds); code == impl.OK {
		text += fmt.Sprintln("refused", at, bad)
	} else {
		text += "none\n"
	}
	for room := range s.Rooms {
		missing, _ := impl.MissingAt(s, deeds, room)
		text += "missing"
		for _, each := range missing {
			text += fmt.Sprintf(" %d-%d", each[0], each[1])
		}
		text += "\n"
		for take, each := range s.Takes {
			text += takeLine(s, deeds, room, int64(take), each.Narrow) + "\n"
		}
	}
	list, _ := impl.FinishDeeds(s, deeds)
	return text + deedLines(list)
}

// takeLine has the bits of a take, in its width.
func takeLine(s impl.Studio, deeds []impl.Deed, room, take int64, isNarrow bool) string {
	var texts []string
	x, code := impl.TakeAt(s, deeds, room, take)
	narrow, _ := impl.NarrowTakeAt(s, deeds, room, take)
	if code != impl.OK {
		return impl.CodeName(code)
	}
	for i := range x {
		if isNarrow {
			texts = append(texts, impl.NarrowBitsText(narrow[i]))
		} else {
			texts = append(texts, impl.BitsText(x[i]))
		}
	}
	return strings.Join(texts, " ")
}
