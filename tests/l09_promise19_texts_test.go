package tests

import (
	"fmt"
	"slices"
	"strings"
	"testing"

	"loop.example/g01155/impl"
)

// wantRecord asks for the record with a text, which is told in all bits.
func wantRecord(t *testing.T, text string) impl.Record {
	t.Helper()
	r, code := impl.ReadRecord(text)
	want(t, fmt.Sprintf("ReadRecord %q: code", text), code, impl.OK)
	want(t, "ReadRecord", recordLine(r), text)
	want(t, "ReadRecord: valid", impl.ValidRecord(r), true)
	want(t, "RecordText of what was read", impl.RecordText(r), text)
	return r
}

// TestPromise19TextsOfAnyNumbers writes and reads numbers of every kind.
func TestPromise19TextsOfAnyNumbers(t *testing.T) {
	for x := range slices.Chunk(append(anyNumbers(), numbersWith(storedReals())...), 6) {
		for _, r := range []impl.Record{{Take: 999, Wide: x}, {Piece: 10, Narrow: narrowed(x)}, {Take: 3, Piece: 4, Wide: x[:1]}, {Take: 77, Piece: 999, Narrow: narrowed(x)[:1]}} {
			line := recordLine(r)
			want(t, "RecordText", impl.RecordText(r), line)
			again := wantRecord(t, line)
			want(t, "ReadRecord: same", impl.SameRecord(r, again) && impl.SameRecord(again, r), true)
			first, one := impl.CheckOf(r)
			second, two := impl.CheckOf(again)
			want(t, "codes of CheckOf", [2]int64{one, two}, [2]int64{impl.OK, impl.OK})
			want(t, "CheckOf what was read", second, first)
		}
	}
	for _, r := range validRecords() {
		want(t, "ReadRecord: same", impl.SameRecord(r, wantRecord(t, impl.RecordText(r))), true)
	}
}

const (
	wideOne   = "3ff0000000000000 0000000000000000"
	narrowOne = "3f800000 00000000"
)

func TestPromise19TextsOfRecords(t *testing.T) {
	for text, r := range map[string]impl.Record{
		"wide 0 0 " + wideOne:                                   {Wide: []complex128{1}},
		"narrow 0 0 " + narrowOne:                               {Narrow: []complex64{1}},
		"wide 999 999 nan nan":                                  {Take: 999, Piece: 999, Wide: []complex128{complex(nan, nan)}},
		"narrow 999 10 nan nan":                                 {Take: 999, Piece: 10, Narrow: []complex64{complex(float32(nan), float32(nan))}},
		"wide 1 2 7ff0000000000000 fff0000000000000":            {Take: 1, Piece: 2, Wide: []complex128{complex(inf, -inf)}},
		"narrow 1 2 7f800000 ff800000":                          {Take: 1, Piece: 2, Narrow: []complex64{complex(float32(inf), float32(-inf))}},
		"wide 7 0 8000000000000000 0000000000000001 " + wideOne: {Take: 7, Wide: []complex128{complex(minus0, least), 1}},
		"narrow 0 7 80000000 00000001 " + narrowOne:             {Piece: 7, Narrow: []complex64{complex(float32(minus0), 0x1p-149), 1}},
		"wide 100 20 " + strings.Repeat(wideOne+" ", 5) + "nan " + "0000000000000000": {Take: 100, Piece: 20, Wide: []complex128{1, 1, 1, 1, 1, complex(nan, 0)}},
	} {
		want(t, "RecordText "+text, impl.RecordText(r), text)
		want(t, "ReadRecord "+text, impl.SameRecord(r, wantRecord(t, text)), true)
	}
}

// textsOfNoRecord are those that are nearly the text of a record.
func textsOfNoRecord() []string {
	texts := []string{
		"", " ", "wide", "wide ", "wide 0", "wide 0 0", "wide 0 0 ", "narrow 0 0", "narrow 0 0 ", "0 0 " + wideOne, wideOne, narrowOne, " 0 0 " + wideOne, "none 0 0 " + wideOne, "both 0 0 " + wideOne,
		"wide 0 " + wideOne, "wide 0 0 0 " + wideOne, "wide 0 0 3ff0000000000000", "wide 0 0 nan", "narrow 0 0 3f800000", "wide 0 0 " + wideOne + " nan", "narrow 0 0 " + narrowOne + " 00000000",
		"wide 0 0 " + narrowOne, "narrow 0 0 " + wideOne, "wide 0 0 " + wideOne + " " + narrowOne, "narrow 0 0 " + narrowOne + " " + wideOne, "wide 0 0 3ff0000000000000 00000000", "narrow 0 0 3f800000 0000000000000000",
		"wide 0 0 " + strings.Repeat(wideOne+" ", 6) + wideOne, "narrow 0 0 " + strings.Repeat(narrowOne+" ", 6) + narrowOne, "wide 0 0" + strings.Repeat(" nan", 13), "wide 0 0" + strings.Repeat(" nan", 14), "narrow 0 0" + strings.Repeat(" nan", 11), "wide 0 0" + strings.Repeat(" nan", 4000),
	}
	for _, word := range []string{"Wide", "WIDE", "Narrow", "NARROW", "wides", "wid", "narrows", "wide\t", "\twide", "wide\x00", "complex", "64", "\xff"} {
		texts = append(texts, word+" 0 0 "+wideOne, word+" 0 0 "+narrowOne)
	}
	for _, number := range []string{"", "00", "01", "+0", "+1", "-0", "-1", "1000", "0001", "9999", "0999", "1.0", "1e1", "0x1", "1_0", "x", "nan", "18446744073709551616", "18446744073709551617", strings.Repeat("9", 300), " 1", "1 ", "\t1", "1\n", "１", "0b1"} {
		texts = append(texts, "wide "+number+" 0 "+wideOne, "wide 0 "+number+" "+wideOne, "narrow "+number+" 0 "+narrowOne, "narrow 0 "+number+" "+narrowOne)
	}
	for _, bits := range []string{"", "3FF0000000000000", "3ff000000000000", "3ff00000000000000", "NaN", "NAN", "7ff8000000000000", "fff8000000000001", "7ff0000000000001", "inf", "1", "0", "-0", "0x3ff00000000000", "3ff000000000000g", "+3ff000000000000", " nan", "nan ", "nan\n", "nan,"} {
		texts = append(texts, "wide 0 0 "+bits+" 0000000000000000", "wide 0 0 0000000000000000 "+bits, "wide 0 0 "+wideOne+" "+bits+" nan", "wide 0 0 nan "+bits+" "+wideOne)
	}
	for _, bits := range []string{"", "3F800000", "3f80000", "3f8000000", "NaN", "7fc00000", "ffc00001", "7f800001", "inf", "1", "0", "0x3f8000", "3f80000g", " nan", "nan "} {
		texts = append(texts, "narrow 0 0 "+bits+" 00000000", "narrow 0 0 00000000 "+bits, "narrow 0 0 "+narrowOne+" "+bits+" nan")
	}
	for _, text := range []string{"wide 0 0 " + wideOne, "narrow 0 0 " + narrowOne} {
		texts = append(texts, " "+text, text+" ", text+"\n", "\n"+text, text+"\r", text+"\x00", text+text, text+" "+text, text+"\n"+text, strings.ReplaceAll(text, " ", "  "), strings.Replace(text, " ", "  ", 1), strings.ReplaceAll(text, " ", "\t"), strings.ReplaceAll(text, " ", ""), strings.ReplaceAll(text, " ", "\n"), strings.ToUpper(text))
	}
	return texts
}

func TestPromise19TextsOfNoRecord(t *testing.T) {
	for _, text := range textsOfNoRecord() {
		r, code := impl.ReadRecord(text)
		wantNoRecord(t, fmt.Sprintf("ReadRecord %q", text), r, code, impl.ErrSyntax)
		for _, journal := range []string{text + "\n", "wide 0 0 " + wideOne + "\n" + text + "\n", text + "\nnarrow 0 0 " + narrowOne + "\n"} {
			if len(text) < 15000 && !isJournal(journal) {
				records, code := impl.ReadJournal(journal)
				wantCode(t, fmt.Sprintf("ReadJournal %q", journal), records, code, impl.ErrSyntax)
			}
		}
	}
}

// isJournal tells whether each line with a newline is the text of a record.
func isJournal(text string) bool {
	lines := strings.Split(text, "\n")
	for _, line := range lines[:len(lines)-1] {
		if _, code := impl.ReadRecord(line); code != impl.OK {
			return false
		}
	}
	return true
}

// TestPromise19TextsWithFaults changes one byte of texts of records: what is read
// has the text of which it is read.
func TestPromise19TextsWithFaults(t *testing.T) {
	d := &draws{state: 95}
	bytes := "0123456789abcdefn widearow+-\n\t\x00\xff"
	read := 0
	for _, r := range append(validRecords(), recordsToSpoil()...) {
		text := impl.RecordText(r)
		for range 60 {
			at := d.next(int64(len(text)))
			with := string(bytes[d.next(int64(len(bytes)))])
			for _, other := range []string{text[:at] + with + text[at+1:], text[:at] + with + text[at:], text[:at] + text[at+1:], text[:at]} {
				if q, code := impl.ReadRecord(other); code == impl.OK {
					wantRecord(t, other)
					read++
				} else {
					wantNoRecord(t, fmt.Sprintf("ReadRecord %q", other), q, code, impl.ErrSyntax)
				}
			}
		}
	}
	want(t, "some are texts of records", read > 100, true)
}

// wantJournal asks for records with these texts.
func wantJournal(t *testing.T, text string, lines ...string) {
	t.Helper()
	records, code := impl.ReadJournal(text)
	var got []string
	for _, r := range records {
		got = append(got, recordLine(r))
	}
	want(t, fmt.Sprintf("ReadJournal %q: code", text), code, impl.OK)
	want(t, fmt.Sprintf("ReadJournal %q", text), linesOf(got), linesOf(lines))
}

func TestPromise19Journals(t *testing.T) {
	first, second := "wide 0 0 "+wideOne, "narrow 1 2 "+narrowOne+" nan 80000000"
	wantJournal(t, "")
	wantJournal(t, first+"\n", first)
	wantJournal(t, first+"\n"+second+"\n", first, second)
	wantJournal(t, first+"\n"+first+"\n"+second+"\n"+first+"\n", first, first, second, first)
	for _, torn := range []string{"x", " ", first, second, first[:7], first + " ", second[:len(second)-1], "nan nan", "\r", "\x00", strings.Repeat("9", 1000)} {
		wantJournal(t, torn)
		wantJournal(t, first+"\n"+torn, first)
		wantJournal(t, second+"\n"+first+"\n"+torn, second, first)
	}
	for _, text := range []string{"\n", "\n\n", first + "\n\n", "\n" + first + "\n", first + "\n\n" + second + "\n", first + "\r\n", first + " \n", " " + first + "\n", first + "\n \n", first + "\n \n" + second, "x\n" + first + "\n", first + "\nx\n" + second, first + second + "\n"} {
		records, code := impl.ReadJournal(text)
		wantCode(t, fmt.Sprintf("ReadJournal %q", text), records, code, impl.ErrSyntax)
	}
	want(t, "JournalText of nothing", impl.JournalText(nil)+impl.JournalText([]impl.Record{}), "")
}

// TestPromise19JournalsAreReadAgain writes records of every kind, and tears the
// text at each byte.
func TestPromise19JournalsAreReadAgain(t *testing.T) {
	var all []impl.Record
	for records := range slices.Chunk(append(validRecords(), recordsToSpoil()...), 7) {
		all = append(all, records...)
		var lines []string
		for _, r := range records {
			lines = append(lines, recordLine(r))
		}
		text := impl.JournalText(records)
		want(t, "JournalText", text, linesOf(lines))
		whole, next := 0, 0
		for at := range len(text) + 1 {
			if at == next+len(lines[min(whole, len(lines)-1)])+1 {
				next, whole = at, whole+1
			}
			if at%3 == 0 || at > len(text)-2 || at-next < 2 {
				wantJournal(t, text[:at], lines[:whole]...)
			}
		}
		want(t, "records", whole, len(records))
	}
	want(t, "JournalText of many", len(impl.JournalText(slices.Repeat(all, 20))) > 2*impl.MaxJournal, true)
}

// TestPromise19LongJournals has texts of MaxJournal bytes, and one more.
func TestPromise19LongJournals(t *testing.T) {
	const most = 40000
	exact := strings.Repeat("narrow 100 100 nan nan\n", 500) + strings.Repeat("narrow 0 0 nan nan\n", 1500)
	want(t, "bytes", len(exact), most)
	records, code := impl.ReadJournal(exact)
	want(t, "ReadJournal of MaxJournal bytes", [2]int64{int64(len(records)), code}, [2]int64{2000, impl.OK})
	want(t, "JournalText of what was read", impl.JournalText(records) == exact, true)
	longer := "narrow 10 0 nan nan\n"
	for _, text := range []string{exact + "x", exact + "\n", exact[:most-19] + longer, "x" + exact, longer + exact[:most-19]} {
		records, code = impl.ReadJournal(text)
		wantCode(t, "ReadJournal of one more byte", records, code, impl.ErrRange)
	}
	for text, count := range map[string]int{exact[:most-1]: 1999, exact[:most-19]: 1999, exact[:most-20]: 1998, exact[:most-1] + "x": 1999} {
		records, code = impl.ReadJournal(text)
		want(t, "ReadJournal of a torn text", [2]int64{int64(len(records)), code}, [2]int64{int64(count), impl.OK})
	}
	for length, expected := range map[int]int64{most - 1: impl.OK, most: impl.OK, most + 1: impl.ErrRange} {
		records, code = impl.ReadJournal(strings.Repeat("x", length))
		wantCode(t, "ReadJournal of one torn line", records, code, expected)
	}
	for length, expected := range map[int]int64{most: impl.ErrSyntax, most + 1: impl.ErrRange} {
		records, code = impl.ReadJournal(strings.Repeat("\n", length))
		wantCode(t, "ReadJournal of empty lines", records, code, expected)
	}
}
