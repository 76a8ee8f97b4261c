package tests

import (
	"fmt"
	"math"
	"testing"

	"loop.example/g01155/impl"
)

// recordsToSpoil have first numbers of every kind, in both widths.
func recordsToSpoil() []impl.Record {
	var list []impl.Record
	for i, a := range append(anyReals(), storedReals()...) {
		x := []complex128{complex(a, 2), complex(1, a)}[:1+i%2]
		list = append(list, impl.Record{Take: 1, Piece: int64(i % 5), Wide: x}, impl.Record{Take: int64(i % 5), Narrow: narrowed(x)})
	}
	odd := math.Float32frombits(0x7f800001)
	return append(list, impl.Record{Narrow: []complex64{complex(odd, odd)}}, impl.Record{Narrow: []complex64{complex(-odd, 1), 5}})
}

func bitsIn(r impl.Record) int64 {
	if len(r.Narrow) != 0 {
		return 32
	}
	return 64
}

// TestPromise19SpoiltRecords has each bit of numbers of every kind: the record is
// the same, or has another check.
func TestPromise19SpoiltRecords(t *testing.T) {
	for _, r := range recordsToSpoil() {
		line := recordLine(r)
		check, code := impl.CheckOf(r)
		want(t, "CheckOf: code", code, impl.OK)
		want(t, "CheckOf "+line, check, toldCheck(line))
		for bit := range bitsIn(r) {
			name := fmt.Sprint("SpoilRecord ", line, " ", bit)
			spoilt, code := impl.SpoilRecord(r, bit)
			want(t, name+": code", code, impl.OK)
			want(t, name, recordLine(spoilt), toldSpoilt(line, bit))
			want(t, name+": valid", impl.ValidRecord(spoilt), true)
			other, code := impl.CheckOf(spoilt)
			want(t, name+": code of the check", code, impl.OK)
			want(t, name+": same check", other == check, impl.SameRecord(r, spoilt))
		}
	}
}

// TestPromise19SpoiltTwice changes two bits. A record is as it was if both are
// the same and none of both records has NaN there.
func TestPromise19SpoiltTwice(t *testing.T) {
	for _, r := range recordsToSpoil() {
		line := recordLine(r)
		check, _ := impl.CheckOf(r)
		for first := range bitsIn(r) {
			once, _ := impl.SpoilRecord(r, first)
			for _, second := range []int64{first, 0, 22, bitsIn(r) - 1, (first*7 + 3) % bitsIn(r), 51 % bitsIn(r)} {
				name := fmt.Sprint("SpoilRecord ", line, " ", first, " and ", second)
				twice, code := impl.SpoilRecord(once, second)
				want(t, name+": code", code, impl.OK)
				want(t, name, recordLine(twice), toldSpoilt(toldSpoilt(line, first), second))
				other, _ := impl.CheckOf(twice)
				want(t, name+": same check", other == check, impl.SameRecord(r, twice))
				isNaN := math.IsNaN(firstPart(r)) || math.IsNaN(firstPart(once))
				if first == second && !isNaN {
					want(t, name+": as it was", impl.SameRecord(r, twice), true)
				}
			}
		}
	}
}

func firstPart(r impl.Record) float64 {
	if len(r.Narrow) != 0 {
		return float64(real(r.Narrow[0]))
	}
	return real(r.Wide[0])
}

// TestPromise19SpoiltNaN has the bits that stand for each NaN.
func TestPromise19SpoiltNaN(t *testing.T) {
	for _, a := range []float64{nan, otherNaN, math.Float64frombits(0x7ff0000000000001), -nan} {
		r := impl.Record{Wide: []complex128{complex(a, 0)}}
		spoilt, code := impl.SpoilRecord(r, 51)
		wantSignal(t, "NaN without its bit 51", spoilt.Wide, code, complex(inf, 0))
		for _, bit := range []int64{0, 50, 63} {
			spoilt, code = impl.SpoilRecord(r, bit)
			wantSignal(t, "NaN with another bit", spoilt.Wide, code, complex(nan, 0))
		}
		spoilt, code = impl.SpoilRecord(r, 52)
		wantSignal(t, "NaN without its bit 52", spoilt.Wide, code, complex(math.Float64frombits(0x7fe8000000000000), 0))
	}
	for _, bits := range []uint32{0x7fc00000, 0xff800001, 0x7f812345} {
		r := impl.Record{Narrow: []complex64{complex(math.Float32frombits(bits), 0)}}
		spoilt, code := impl.SpoilRecord(r, 22)
		wantSignal(t, "narrow NaN without its bit 22", widened(spoilt.Narrow), code, complex(inf, 0))
		spoilt, code = impl.SpoilRecord(r, 31)
		wantSignal(t, "narrow NaN with its sign", widened(spoilt.Narrow), code, complex(nan, 0))
	}
	// inf becomes NaN, for which other bits stand.
	r := impl.Record{Wide: []complex128{complex(inf, 0)}}
	once, _ := impl.SpoilRecord(r, 3)
	wantSameReal(t, "infinity with its bit 3", firstPart(once), nan)
	twice, _ := impl.SpoilRecord(once, 3)
	wantSameReal(t, "infinity with its bit 3 twice", firstPart(twice), nan)
	twice, _ = impl.SpoilRecord(once, 51)
	want(t, "infinity with its bits 3 and 51", impl.SameRecord(r, twice), true)
}

// TestPromise19BitsThatAreNone has bits of both widths, and beyond.
func TestPromise19BitsThatAreNone(t *testing.T) {
	wide, narrow := wideRecord(1, 2, 3), narrowRecord(1, 2, 3)
	for bit, codes := range map[int64][2]int64{
		0: {impl.OK, impl.OK}, 31: {impl.OK, impl.OK}, 32: {impl.OK, impl.ErrRange}, 63: {impl.OK, impl.ErrRange},
		64: {impl.ErrRange, impl.ErrRange}, -1: {impl.ErrRange, impl.ErrRange}, 999: {impl.ErrRange, impl.ErrRange},
	} {
		for i, r := range []impl.Record{wide, narrow} {
			spoilt, code := impl.SpoilRecord(r, bit)
			if codes[i] != impl.OK {
				wantNoRecord(t, fmt.Sprint("SpoilRecord ", bit), spoilt, code, codes[i])
				continue
			}
			want(t, fmt.Sprint("SpoilRecord ", bit, ": code"), code, impl.OK)
			want(t, fmt.Sprint("SpoilRecord ", bit), recordLine(spoilt), toldSpoilt(recordLine(r), bit))
		}
	}
	for _, bit := range oddIntegers() {
		spoilt, code := impl.SpoilRecord(wide, bit)
		want(t, fmt.Sprint("SpoilRecord ", bit), [2]bool{code == impl.OK, impl.ValidRecord(spoilt)}, [2]bool{bit >= 0 && bit < 64, bit >= 0 && bit < 64})
		spoilt, code = impl.SpoilRecord(narrow, bit)
		want(t, fmt.Sprint("SpoilRecord ", bit), [2]bool{code == impl.OK, impl.ValidRecord(spoilt)}, [2]bool{bit >= 0 && bit < 32, bit >= 0 && bit < 32})
	}
}

// TestPromise19ChecksTellAllApart has records that differ in one thing. (Signs
// that are changed in two places leave a check as it is: so there are none here.)
func TestPromise19ChecksTellAllApart(t *testing.T) {
	seen := map[uint64]string{}
	list := validRecords()
	for _, r := range []impl.Record{wideRecord(3, 4, 2), narrowRecord(3, 4, 2)} {
		for bit := range bitsIn(r) {
			spoilt, _ := impl.SpoilRecord(r, bit)
			list = append(list, spoilt)
		}
	}
	list = append(list,
		impl.Record{Wide: []complex128{complex(0, 1)}}, impl.Record{Wide: []complex128{complex(1, 0)}}, impl.Record{Wide: []complex128{1, 0}}, impl.Record{Wide: []complex128{0, 1}}, impl.Record{Wide: []complex128{0, 0}}, impl.Record{Wide: []complex128{0}}, impl.Record{Narrow: []complex64{0}},
		impl.Record{Take: 1, Wide: []complex128{0}}, impl.Record{Piece: 1, Wide: []complex128{0}}, impl.Record{Wide: []complex128{complex(0, minus0)}},
	)
	for _, r := range list {
		check, code := impl.CheckOf(r)
		want(t, "CheckOf: code", code, impl.OK)
		want(t, "CheckOf", check, toldCheck(recordLine(r)))
		if line, ok := seen[check]; ok {
			want(t, "the record with a check", recordLine(r), line)
		}
		seen[check] = recordLine(r)
	}
	want(t, "checks", len(seen) > 250, true)
}
