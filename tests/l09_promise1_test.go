package tests

import (
	"fmt"
	"slices"
	"strings"
	"testing"

	"loop.example/g01155/impl"
)

// studioWithRoom has takes with the same pieces, and numbers behind all slices.
func studioWithRoom() impl.Studio {
	odd := withRoom([]complex128{complex(nan, minus0), 0.1, complex(inf, least)})
	pieces := append([][]complex128{odd, odd, odd[:1]}, odd[:2])[:3]
	takes := []impl.Take{{Pieces: pieces}, {Narrow: true, Pieces: pieces}, {Pieces: pieces[:1]}, {Narrow: true, Pieces: pieces[:1]}}
	return impl.Studio{Rooms: 3, Takes: takes[:3]}
}

// recordsWithRoom have the same numbers, and numbers behind all slices.
func recordsWithRoom() []impl.Record {
	wide := withRoom([]complex128{complex(nan, minus0), 0.1})
	narrow := append([]complex64{complex(float32(nan), 1), 2}, 7, 8i)[:2]
	records := []impl.Record{{Take: 1, Wide: wide}, {Take: 2, Narrow: narrow}, {Take: 3, Wide: wide, Narrow: narrow[:0]}, {Take: 4, Wide: wide[:0], Narrow: narrow}}
	return append(records, impl.Record{Take: 9, Wide: wide})[:4]
}

// deedsWithRoom leave all takes in the room 0, and records of the same pieces in
// other rooms and on the wire. The last deed cannot be done.
func deedsWithRoom() []impl.Deed {
	texts := strings.Split("send 0 0 0,deliver 0,send 0 0 1,deliver 0,send 0 0 2,deliver 0,send 0 1 0,deliver 0,send 0 1 1,deliver 0,send 0 1 2,deliver 0,send 0 2 0,deliver 0,"+
		"pass 0 0 1,copy 0,pass 0 3 2,copy 1,pass 0 3 1,spoil 2 5,send 2 1 0,sync 0,crash 9", ",")
	var deeds []impl.Deed
	for _, text := range texts {
		d, _ := impl.ReadDeed(text)
		deeds = append(deeds, d)
	}
	return append(deeds, impl.Deed{Kind: 9, A: 9})[:len(deeds)]
}

// storeTextUpTo has all that is given to functions of the store, up to the
// capacities.
func storeTextUpTo(g given) string {
	text := fmt.Sprint(" ", g.studio.Rooms, len(g.studio.Takes))
	for _, take := range g.studio.Takes[:cap(g.studio.Takes)] {
		text += fmt.Sprint(" ", take.Narrow, len(take.Pieces))
		for _, piece := range take.Pieces[:cap(take.Pieces)] {
			text += fmt.Sprintf(" %d %x", len(piece), bitsOf(piece[:cap(piece)]))
		}
	}
	for _, r := range g.records[:cap(g.records)] {
		text += fmt.Sprintf(" %d %d %d %d", r.Take, r.Piece, len(r.Wide), len(r.Narrow))
		text += fmt.Sprintf(" %x %x", bitsOf(r.Wide[:cap(r.Wide)]), narrowBitsOf(r.Narrow[:cap(r.Narrow)]))
	}
	return text + fmt.Sprint(len(g.deeds), g.deeds[:cap(g.deeds)])
}

// piecesOfStore are the slices of results of the store. A list of what has slices
// itself is told by its length and numbers alone.
func piecesOfStore(result any) []piece {
	var pieces []piece
	switch list := result.(type) {
	case impl.Record:
		return []piece{pieceOf(list.Wide, 9i), pieceOf(list.Narrow, 9i)}
	case []impl.Record:
		outer := pieceOf(list, impl.Record{Take: 9})
		outer.text = func() string { return namesOf(list) }
		pieces = append(pieces, outer)
		for _, r := range list {
			pieces = append(pieces, piecesOfStore(r)...)
		}
	case impl.Room:
		return piecesOfStore(list.Records)
	case impl.House:
		return append(piecesOfRooms(list.Rooms), piecesOfWire(list.Wire)...)
	case []impl.Deed:
		return []piece{pieceOf(list, impl.Deed{Kind: 9})}
	case [][]int64:
		outer := pieceOf(list, []int64{9})
		outer.text = func() string { return fmt.Sprint(len(list)) }
		pieces = append(pieces, outer)
		for _, each := range list {
			pieces = append(pieces, pieceOf(each, 9))
		}
	}
	return pieces
}

func namesOf(list []impl.Record) string {
	text := ""
	for _, r := range list {
		text += fmt.Sprint(r.Take, " ", r.Piece, ";")
	}
	return text
}

func piecesOfRooms(rooms []impl.Room) []piece {
	outer := pieceOf(rooms, impl.Room{Synced: 9})
	outer.text = func() string {
		text := ""
		for _, each := range rooms {
			text += fmt.Sprint(each.Synced, len(each.Records), ";")
		}
		return text
	}
	pieces := []piece{outer}
	for _, each := range rooms {
		pieces = append(pieces, piecesOfStore(each)...)
	}
	return pieces
}

func piecesOfWire(wire []impl.Parcel) []piece {
	outer := pieceOf(wire, impl.Parcel{To: 9})
	outer.text = func() string {
		text := ""
		for _, p := range wire {
			text += fmt.Sprint(p.To, p.Check, p.Record.Take, p.Record.Piece, ";")
		}
		return text
	}
	pieces := []piece{outer}
	for _, p := range wire {
		pieces = append(pieces, piecesOfStore(p.Record)...)
	}
	return pieces
}

func storeCalls() map[string]func(g given) []any {
	lines := "wide 0 0 nan 0000000000000000\nnarrow 0 0 nan 00000000\n"
	calls := map[string]func(g given) []any{
		"ValidStudio":         func(g given) []any { return pack(impl.ValidStudio(g.studio)) },
		"RecordOf":            func(g given) []any { return pack(impl.RecordOf(g.studio, 0, 1)) },
		"RecordOf, narrow":    func(g given) []any { return pack(impl.RecordOf(g.studio, 1, 1)) },
		"JournalText":         func(g given) []any { return pack(impl.JournalText(g.records)) },
		"ReadJournal":         func(g given) []any { return pack(impl.ReadJournal(lines + lines)) },
		"ReadRecord":          func(g given) []any { return pack(impl.ReadRecord("wide 0 0 nan nan nan nan")) },
		"ReadRecord, narrow":  func(g given) []any { return pack(impl.ReadRecord("narrow 0 0 nan nan nan nan")) },
		"ValidDeed":           func(g given) []any { return pack(impl.ValidDeed(g.deeds[0])) },
		"DeedText":            func(g given) []any { return pack(impl.DeedText(g.deeds[0])) },
		"ReadDeed":            func(g given) []any { return pack(impl.ReadDeed("pass 1 2 3")) },
		"HouseAfter":          func(g given) []any { return pack(impl.HouseAfter(g.studio, g.deeds)) },
		"HouseAfter, nothing": func(g given) []any { return pack(impl.HouseAfter(g.studio, g.deeds[:0])) },
		"RefusedDeed":         func(g given) []any { return pack(impl.RefusedDeed(g.studio, g.deeds)) },
		"MissingAt":           func(g given) []any { return pack(impl.MissingAt(g.studio, g.deeds, 1)) },
		"FinishDeeds":         func(g given) []any { return pack(impl.FinishDeeds(g.studio, g.deeds)) },
		"RunScript":           func(g given) []any { return pack(impl.RunScript(g.studio, deedLines(g.deeds)+"take 0 2\ncheck 0\n")) },
	}
	for take := range int64(3) {
		calls[fmt.Sprint("TakeAt ", take)] = func(g given) []any { return pack(impl.TakeAt(g.studio, g.deeds, 0, take)) }
		calls[fmt.Sprint("NarrowTakeAt ", take)] = func(g given) []any { return pack(impl.NarrowTakeAt(g.studio, g.deeds, 0, take)) }
	}
	for i, r := range recordsWithRoom() {
		name := fmt.Sprint(", record ", r.Take)
		calls["ValidRecord"+name] = func(g given) []any { return pack(impl.ValidRecord(g.records[i])) }
		calls["SameRecord"+name] = func(g given) []any { return pack(impl.SameRecord(g.records[i], g.records[i])) }
		calls["CheckOf"+name] = func(g given) []any { return pack(impl.CheckOf(g.records[i])) }
		calls["SpoilRecord"+name] = func(g given) []any { return pack(impl.SpoilRecord(g.records[i], 31)) }
		calls["RecordText"+name] = func(g given) []any { return pack(impl.RecordText(g.records[i])) }
	}
	return calls
}

func TestPromise1StoreStaysAsItIs(t *testing.T) {
	want(t, "the given studio is valid", impl.ValidStudio(studioWithRoom()), true)
	for name, run := range storeCalls() {
		wantStays(t, name, run)
	}
}

// TestPromise1StoreIsNotShared overwrites what results have been made of.
func TestPromise1StoreIsNotShared(t *testing.T) {
	s, deeds, records := studioWithRoom(), deedsWithRoom(), recordsWithRoom()
	h, _, one := impl.HouseAfter(s, deeds)
	r, two := impl.RecordOf(s, 2, 0)
	spoilt, three := impl.SpoilRecord(records[0], 0)
	narrow, four := impl.SpoilRecord(records[1], 0)
	x, five := impl.TakeAt(s, deeds, 0, 0)
	want(t, "codes", [5]int64{one, two, three, four, five}, [5]int64{})
	tell := func() string {
		return houseLines(h) + recordLine(r) + recordLine(spoilt) + recordLine(narrow) + fmt.Sprint(bitsOf(x))
	}
	before := tell()
	for _, take := range s.Takes {
		for _, piece := range take.Pieces {
			clear(piece)
		}
		clear(take.Pieces)
	}
	for _, each := range records {
		clear(each.Wide)
		clear(each.Narrow)
	}
	clear(s.Takes)
	clear(deeds)
	clear(records)
	want(t, "results, what they are made of overwritten", tell(), before)
}

// TestPromise1StoreOfAnyIntegers has numbers that are no indices.
func TestPromise1StoreOfAnyIntegers(t *testing.T) {
	s, integers := studioWithRoom(), append(oddIntegers(), 999, 1000, 31, 32)
	for _, a := range integers {
		for _, b := range integers {
			r, code := impl.RecordOf(s, a, b)
			isPiece := a >= 0 && a <= 2 && b >= 0 && (b < 3 && a < 2 || b == 0)
			want(t, fmt.Sprint("RecordOf ", a, " ", b), [2]bool{code == impl.OK, impl.ValidRecord(r)}, [2]bool{isPiece, isPiece})
			x, code := impl.TakeAt(s, nil, a, b)
			isThere := a >= 0 && a <= 2 && b >= 0 && b <= 2
			wantCode(t, fmt.Sprint("TakeAt ", a, " ", b), x, code, codeIf(isThere, impl.ErrNotFound, impl.ErrRange))
			narrow, code := impl.NarrowTakeAt(s, nil, a, b)
			wantCode(t, fmt.Sprint("NarrowTakeAt ", a, " ", b), narrow, code, codeIf(isThere, impl.ErrNotFound, impl.ErrRange))
			for _, each := range toldDeeds {
				d := impl.Deed{Kind: each.kind, A: a, B: b, C: a}
				_, done, code := impl.HouseAfter(s, []impl.Deed{d})
				want(t, fmt.Sprint("HouseAfter ", d), code, codeIf(impl.ValidDeed(d), impl.OK, impl.ErrInvalid))
				want(t, fmt.Sprint("HouseAfter ", d, ": done"), done <= btoi(impl.ValidDeed(d)), true)
			}
			good := impl.Record{Take: a, Piece: b, Wide: []complex128{1}}
			isIndex := a >= 0 && a <= 999 && b >= 0 && b <= 999
			want(t, fmt.Sprint("RecordText ", a, " ", b), impl.RecordText(good) == fmt.Sprint("wide ", a, " ", b, " ", wideOne), isIndex)
		}
		missing, code := impl.MissingAt(s, nil, a)
		isRoom := a >= 0 && a <= 2
		want(t, fmt.Sprint("MissingAt ", a), [2]int64{int64(len(missing)), code}, [2]int64{7 * btoi(isRoom), codeIf(isRoom, impl.OK, impl.ErrRange)})
		want(t, fmt.Sprint("ValidStudio ", a), impl.ValidStudio(impl.Studio{Rooms: a}), a >= 1 && a <= 3)
	}
}

func codeIf(is bool, code, otherwise int64) int64 {
	if is {
		return code
	}
	return otherwise
}

func TestPromise1StoreOfNothing(t *testing.T) {
	for _, takes := range [][]impl.Take{nil, {}} {
		for _, deeds := range [][]impl.Deed{nil, {}} {
			s := impl.Studio{Rooms: 3, Takes: takes}
			h, done, one := impl.HouseAfter(s, deeds)
			want(t, "HouseAfter nothing", houseLines(h), "room 0 0 0\nroom 1 0 0\nroom 2 0 0\n")
			at, bad, two := impl.RefusedDeed(s, deeds)
			missing, three := impl.MissingAt(s, deeds, 2)
			list, four := impl.FinishDeeds(s, deeds)
			want(t, "FinishDeeds of nothing", deedLines(list), "sync 0\nsync 1\nsync 2\n")
			want(t, "codes", [4]int64{one, two, three, four}, [4]int64{impl.OK, impl.ErrNotFound, impl.OK, impl.OK})
			want(t, "what is told of nothing", [4]int64{done, at, bad, int64(len(missing))}, [4]int64{})
		}
	}
	for _, none := range [][]impl.Record{nil, {}} {
		want(t, "JournalText of nothing", impl.JournalText(none), "")
	}
	records, code := impl.ReadJournal("")
	wantCode(t, "ReadJournal of nothing", records, code, impl.OK)
	empty := impl.Record{Wide: []complex128{}, Narrow: []complex64{}}
	want(t, "SameRecord of nothing", impl.SameRecord(empty, impl.Record{}) && impl.SameRecord(impl.Record{}, empty), true)
}

func TestPromise1VeryLongStores(t *testing.T) {
	x, narrow := make([]complex128, 900000), make([]complex64, 900000)
	pieces := make([][]complex128, 900000)
	for _, s := range []impl.Studio{
		{Rooms: 1, Takes: make([]impl.Take, 900000)}, {Rooms: 1, Takes: []impl.Take{{Pieces: pieces}}}, {Rooms: 1, Takes: []impl.Take{{Pieces: [][]complex128{x}}}}, {Rooms: 1, Takes: []impl.Take{{Narrow: true, Pieces: [][]complex128{x}}}},
	} {
		wantInvalidStudio(t, s)
	}
	for _, r := range []impl.Record{{Wide: x}, {Narrow: narrow}, {Wide: x[:1], Narrow: narrow[:1]}} {
		want(t, "ValidRecord", impl.ValidRecord(r), false)
		want(t, "SameRecord", impl.SameRecord(r, r), true)
		want(t, "RecordText", impl.RecordText(r), "")
		spoilt, code := impl.SpoilRecord(r, 0)
		wantNoRecord(t, "SpoilRecord", spoilt, code, impl.ErrInvalid)
	}
	many := slices.Repeat([]impl.Record{{Wide: x[:1]}}, 300000)
	want(t, "JournalText of many records", len(impl.JournalText(many)), 300000*len("wide 0 0 "+wideOne+"\n"))
	want(t, "JournalText of many records and one that is none", impl.JournalText(append(many, impl.Record{})), "")
	deeds := slices.Repeat([]impl.Deed{{Kind: impl.DdSync}}, 900000)
	wantDeedErrors(t, twoTakes(), deeds, 0, 0, impl.ErrRange, impl.ErrRange, impl.ErrRange)
	wantDeedErrors(t, twoTakes(), append(deeds, impl.Deed{}), 0, 0, impl.ErrInvalid, impl.ErrInvalid, impl.ErrInvalid)
	for _, unit := range []string{" ", "0", "x", "\n", "nan ", "wide ", "sync 0\n", "wide 0 0 nan nan\n"} {
		text := strings.Repeat(unit, 900000/len(unit))
		for _, each := range []string{text, "wide 0 0 " + text, "send " + text, "sync" + text} {
			r, code := impl.ReadRecord(each)
			wantNoRecord(t, "ReadRecord of a long text", r, code, impl.ErrSyntax)
			d, code := impl.ReadDeed(each)
			want(t, "ReadDeed of a long text", [2]int64{d.Kind, code}, [2]int64{0, impl.ErrSyntax})
			records, code := impl.ReadJournal(each)
			wantCode(t, "ReadJournal of a long text", records, code, impl.ErrRange)
			answers, code := impl.RunScript(twoTakes(), each)
			want(t, "RunScript of a long text", [2]int64{int64(len(answers)), code}, [2]int64{0, impl.ErrRange})
		}
	}
}

// TestPromise1StoreOfAnyTexts reads texts that nobody has written on purpose.
func TestPromise1StoreOfAnyTexts(t *testing.T) {
	d := &draws{state: 101}
	words := strings.Split("wide narrow send pass deliver copy drop spoil sync crash records take check 0 0 0 0 1 1 1 2 2 3 9 999 1000 nan nan nan 3ff0000000000000 3f800000 00 -1 x", " ")
	blanks := append(slices.Repeat([]string{" "}, 40), "  ", "\n", "\t", "")
	read, answered := 0, 0
	for range 60000 {
		text := words[d.next(int64(len(words)))]
		for range d.next(6) {
			text += blanks[d.next(int64(len(blanks)))] + words[d.next(int64(len(words)))]
		}
		r, one := impl.ReadRecord(text)
		deed, two := impl.ReadDeed(text)
		want(t, fmt.Sprintf("codes of %q", text), (one == impl.OK || one == impl.ErrSyntax) && (two == impl.OK || two == impl.ErrSyntax), true)
		want(t, fmt.Sprintf("%q: both", text), one == impl.OK && two == impl.OK, false)
		if one == impl.OK || two == impl.OK {
			want(t, "the text of what was read", impl.RecordText(r)+impl.DeedText(deed), text)
			read++
		}
		answers, code := impl.RunScript(twoTakes(), text)
		want(t, fmt.Sprintf("RunScript %q", text), [2]int64{int64(strings.Count(answers, "\n")), code}, [2]int64{int64(1 + strings.Count(text, "\n")), impl.OK})
		if !strings.Contains(answers, "what") {
			answered++
		}
	}
	want(t, "some are texts of records or deeds", read > 500 && answered > 500, true)
}

func TestPromise1ConstantsOfStores(t *testing.T) {
	want(t, "limits", [9]int64{impl.MaxTakes, impl.MaxPieces, impl.MaxHeld, impl.MaxRooms, impl.MaxWire, impl.MaxDeeds, impl.MaxJournal, impl.MaxScriptText, impl.MaxScriptLines}, [9]int64{4, 6, 6, 3, 12, 300, 40000, 20000, 120})
	want(t, "kinds", [8]int64{impl.DdSend, impl.DdPass, impl.DdDeliver, impl.DdCopy, impl.DdDrop, impl.DdSpoil, impl.DdSync, impl.DdCrash}, [8]int64{1, 2, 3, 4, 5, 6, 7, 8})
}
