package tests

import (
	"fmt"
	"math"
	"math/big"
	"slices"
	"strings"
	"testing"

	"loop.example/g01155/impl"
)

// What the document tells of the store, made once more with texts: records and
// deeds are their texts here, bits are digits, and checks are great integers.

func toldWideText(a float64) string {
	if a != a {
		return "nan"
	}
	return fmt.Sprintf("%016x", math.Float64bits(a))
}

func toldNarrowText(a float32) string {
	if a != a {
		return "nan"
	}
	return fmt.Sprintf("%08x", math.Float32bits(a))
}

// recordLine has the text of a record, and of what is no valid one too.
func recordLine(r impl.Record) string {
	line := fmt.Sprint(r.Take, " ", r.Piece)
	for _, x := range r.Wide {
		line += " " + toldWideText(real(x)) + " " + toldWideText(imag(x))
	}
	for _, x := range r.Narrow {
		line += " " + toldNarrowText(real(x)) + " " + toldNarrowText(imag(x))
	}
	switch {
	case len(r.Wide) != 0 && len(r.Narrow) != 0:
		return "both " + line
	case len(r.Wide) != 0:
		return "wide " + line
	case len(r.Narrow) != 0:
		return "narrow " + line
	}
	return "none " + line
}

// toldRecord is the text of a record of a studio; "" if there is no such piece.
func toldRecord(s impl.Studio, take, piece int64) string {
	if take < 0 || piece < 0 || take >= int64(len(s.Takes)) || piece >= int64(len(s.Takes[take].Pieces)) {
		return ""
	}
	line := fmt.Sprint(take, " ", piece)
	for _, x := range s.Takes[take].Pieces[piece] {
		if s.Takes[take].Narrow {
			line += " " + toldNarrowText(float32(real(x))) + " " + toldNarrowText(float32(imag(x)))
		} else {
			line += " " + toldWideText(real(x)) + " " + toldWideText(imag(x))
		}
	}
	if s.Takes[take].Narrow {
		return "narrow " + line
	}
	return "wide " + line
}

// partBits are the bits of a part with a text, as a check has them.
func partBits(width, text string) *big.Int {
	if text == "nan" && width == "wide" {
		text = "7ff8000000000000"
	}
	if text == "nan" {
		text = "7fc00000"
	}
	bits, _ := new(big.Int).SetString(text, 16)
	return bits
}

// toldCheck is the check of a record with a text.
func toldCheck(line string) uint64 {
	words := strings.Split(line, " ")
	mark := int64(0)
	if words[0] == "narrow" {
		mark = 1
	}
	var list []*big.Int
	for _, word := range words[1:3] {
		n, _ := new(big.Int).SetString(word, 10)
		list = append(list, n)
	}
	list = append(list, big.NewInt(mark), big.NewInt(int64(len(words)-3)/2))
	for _, word := range words[3:] {
		list = append(list, partBits(words[0], word))
	}
	all, _ := new(big.Int).SetString("14695981039346656037", 10)
	for _, word := range list {
		all.Mul(all, big.NewInt(1099511628211))
		all.Add(all, word)
		all.Mod(all, new(big.Int).Lsh(big.NewInt(1), 64))
	}
	return all.Uint64()
}

// toldSpoilt is the text of a record in which a bit is changed; "" if there is no
// such bit.
func toldSpoilt(line string, bit int64) string {
	words := strings.Split(line, " ")
	digits, fraction := 16, 52
	if words[0] == "narrow" {
		digits, fraction = 8, 23
	}
	if bit < 0 || bit >= int64(4*digits) {
		return ""
	}
	bits := partBits(words[0], words[3])
	bits.SetBit(bits, int(bit), 1-bits.Bit(int(bit)))
	words[3] = fmt.Sprintf("%0*x", digits, bits)
	// NaN has the greatest exponent, and a fraction that is not 0.
	bits.SetBit(bits, 4*digits-1, 0)
	infinite := new(big.Int).Lsh(big.NewInt(1), uint(4*digits-1))
	infinite.Sub(infinite, new(big.Int).Lsh(big.NewInt(1), uint(fraction)))
	if bits.Cmp(infinite) > 0 {
		words[3] = "nan"
	}
	return strings.Join(words, " ")
}

// toldParcel is a record on its way.
type toldParcel struct {
	to    int64
	line  string
	check uint64
}

// toldHouse has the texts of all records.
type toldHouse struct {
	studio impl.Studio
	rooms  [][]string
	synced []int64
	wire   []toldParcel
}

func toldHouseOf(s impl.Studio) *toldHouse {
	return &toldHouse{studio: s, rooms: make([][]string, s.Rooms), synced: make([]int64, s.Rooms)}
}

// pieceName is the take and the piece of a record.
func pieceName(line string) string {
	words := strings.Split(line, " ")
	return words[1] + " " + words[2]
}

func (h *toldHouse) has(room int64, name string) int {
	return slices.IndexFunc(h.rooms[room], func(line string) bool { return pieceName(line) == name })
}

// do does a deed with a text, and returns its error.
func (h *toldHouse) do(text string) int64 {
	word, n := wordsOf(text)
	switch word {
	case "send":
		line := toldRecord(h.studio, n[1], n[2])
		if n[0] >= h.studio.Rooms || line == "" {
			return impl.ErrRange
		}
		return h.post(n[0], line)
	case "pass":
		if n[0] >= h.studio.Rooms || n[2] >= h.studio.Rooms || n[0] == n[2] || n[1] >= int64(len(h.rooms[n[0]])) {
			return impl.ErrRange
		}
		return h.post(n[2], h.rooms[n[0]][n[1]])
	case "sync", "crash":
		if n[0] >= h.studio.Rooms {
			return impl.ErrRange
		}
		if word == "sync" {
			h.synced[n[0]] = int64(len(h.rooms[n[0]]))
		}
		h.rooms[n[0]] = slices.Clone(h.rooms[n[0]][:h.synced[n[0]]])
		return impl.OK
	}
	if n[0] >= int64(len(h.wire)) {
		return impl.ErrRange
	}
	return h.handle(word, n)
}

func (h *toldHouse) post(to int64, line string) int64 {
	if len(h.wire) == 12 {
		return impl.ErrLimit
	}
	h.wire = append(h.wire, toldParcel{to, line, toldCheck(line)})
	return impl.OK
}

// handle does a deed with a parcel that is on the wire.
func (h *toldHouse) handle(word string, n []int64) int64 {
	p := h.wire[n[0]]
	if word == "spoil" {
		line := toldSpoilt(p.line, n[1])
		if line == "" {
			return impl.ErrRange
		}
		h.wire[n[0]].line = line
		return impl.OK
	}
	if word != "drop" && toldCheck(p.line) == p.check && h.has(p.to, pieceName(p.line)) < 0 {
		h.rooms[p.to] = append(h.rooms[p.to], p.line)
	}
	if word != "copy" {
		h.wire = slices.Delete(slices.Clone(h.wire), int(n[0]), int(n[0])+1)
	}
	return impl.OK
}

// missing has the names of all pieces that a room does not have.
func (h *toldHouse) missing(room int64) []string {
	var names []string
	for i, take := range h.studio.Takes {
		for k := range take.Pieces {
			if name := fmt.Sprint(i, " ", k); h.has(room, name) < 0 {
				names = append(names, name)
			}
		}
	}
	return names
}

// takeText has the texts of the numbers of a take, as a room has them.
func (h *toldHouse) takeText(room, take int64) (string, int64) {
	var texts []string
	for k := range h.studio.Takes[take].Pieces {
		at := h.has(room, fmt.Sprint(take, " ", k))
		if at < 0 {
			return "", impl.ErrNotFound
		}
		texts = append(texts, strings.Split(h.rooms[room][at], " ")[3:]...)
	}
	return strings.Join(texts, " "), impl.OK
}

// finish has the texts of the deeds behind which all rooms have all takes.
func (h *toldHouse) finish() []string {
	texts := slices.Repeat([]string{"drop 0"}, len(h.wire))
	for room := range h.studio.Rooms {
		for _, name := range h.missing(room) {
			texts = append(texts, fmt.Sprint("send ", room, " ", name), "deliver 0")
		}
		texts = append(texts, fmt.Sprint("sync ", room))
	}
	return texts
}

// lines has all that a house is.
func (h *toldHouse) lines() string {
	text := ""
	for i, room := range h.rooms {
		text += fmt.Sprintln("room", i, len(room), h.synced[i]) + linesOf(room)
	}
	for _, p := range h.wire {
		text += fmt.Sprintln("to", p.to, p.line, p.check)
	}
	return text
}

// houseLines are the same of a house of the program.
func houseLines(h impl.House) string {
	text := ""
	for i, room := range h.Rooms {
		text += fmt.Sprintln("room", i, len(room.Records), room.Synced)
		for _, r := range room.Records {
			text += recordLine(r) + "\n"
		}
	}
	for _, p := range h.Wire {
		text += fmt.Sprintln("to", p.To, recordLine(p.Record), p.Check)
	}
	return text
}

func deedLines(deeds []impl.Deed) string {
	text := ""
	for _, d := range deeds {
		text += impl.DeedText(d) + "\n"
	}
	return text
}

// deedsFrom reads the texts of deeds that have to be some.
func deedsFrom(t *testing.T, texts ...string) []impl.Deed {
	t.Helper()
	var deeds []impl.Deed
	for _, text := range texts {
		d, code := impl.ReadDeed(text)
		want(t, "ReadDeed "+text, code, impl.OK)
		deeds = append(deeds, d)
	}
	return deeds
}

// recordFrom reads the text of a record that has to be one.
func recordFrom(t *testing.T, text string) impl.Record {
	t.Helper()
	r, code := impl.ReadRecord(text)
	want(t, "ReadRecord "+text, code, impl.OK)
	return r
}

// storedReals are numbers of every kind that a program outside of this one has too.
func storedReals() []float64 {
	var list []float64
	for _, bits := range []uint64{
		0, 0x8000000000000000, 1, 0x8000000000000001, 0x0010000000000000, 0x3ff0000000000000, 0xbff0000000000000, 0x3fb999999999999a,
		0x7fefffffffffffff, 0xffefffffffffffff, 0x7ff0000000000000, 0xfff0000000000000, 0x7ff8000000000000, 0xfff8000000000001, 0x7ff0000000000001,
		0x47efffffe0000000, 0x47efffffefffffff, 0x47effffff0000000, 0x36a0000000000000, 0x3690000000000000, 0x3690000000000001, 0x3ff0000010000000, 0x3ff0000030000000, 0xc08f380000000000,
	} {
		list = append(list, math.Float64frombits(bits))
	}
	return list
}

// drawnStudio has numbers of every kind.
func drawnStudio(d *draws) impl.Studio {
	reals := storedReals()
	part := func() float64 { return reals[d.next(int64(len(reals)))] }
	s := impl.Studio{Rooms: 1 + d.next(3)}
	for range d.next(5) {
		take := impl.Take{Narrow: d.next(2) == 1}
		for range d.next(7) {
			var piece []complex128
			for range 1 + d.next(6) {
				a := part()
				piece = append(piece, complex(a, part()))
			}
			take.Pieces = append(take.Pieces, piece)
		}
		s.Takes = append(s.Takes, take)
	}
	return s
}

// nearly draws one of so many indices, and sometimes the one behind them.
func (d *draws) nearly(count int64) int64 {
	if count == 0 || d.next(12) == 0 {
		count++
	}
	return d.next(count)
}

// drawnDeed is the text of a deed; most of them can be done.
func drawnDeed(d *draws, s impl.Studio) string {
	word := strings.Fields("send send send send send send deliver deliver deliver copy drop spoil pass pass pass sync crash")[d.next(17)]
	switch word {
	case "send":
		room, take, pieces := d.nearly(s.Rooms), d.nearly(int64(len(s.Takes))), 0
		if take < int64(len(s.Takes)) {
			pieces = len(s.Takes[take].Pieces)
		}
		return fmt.Sprint(word, " ", room, " ", take, " ", d.nearly(int64(pieces)))
	case "pass":
		from, index := d.nearly(s.Rooms), d.next(3)
		return fmt.Sprint(word, " ", from, " ", index, " ", d.nearly(s.Rooms))
	case "sync", "crash":
		return fmt.Sprint(word, " ", d.nearly(s.Rooms))
	}
	text := fmt.Sprint(word, " ", d.next([]int64{1, 3, 13}[d.next(3)]))
	if word == "spoil" {
		text += fmt.Sprint(" ", d.next([]int64{32, 66}[d.next(2)]))
	}
	return text
}

func drawnDeeds(d *draws, s impl.Studio, count int64) []string {
	var texts []string
	for range count {
		texts = append(texts, drawnDeed(d, s))
	}
	return texts
}
