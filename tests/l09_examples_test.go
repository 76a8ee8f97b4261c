package tests

import (
	"testing"

	"loop.example/g01155/impl"
)

// exampleStudio is the studio of the document's example.
func exampleStudio() impl.Studio {
	one := [][]complex128{{1}}
	return impl.Studio{Rooms: 1, Takes: []impl.Take{{Pieces: one}, {Narrow: true, Pieces: one}}}
}

// TestExamplesOfChapter9 has the example of the document.
func TestExamplesOfChapter9(t *testing.T) {
	s := exampleStudio()
	first, one := impl.RecordOf(s, 0, 0)
	second, two := impl.RecordOf(s, 1, 0)
	want(t, "codes of RecordOf", [2]int64{one, two}, [2]int64{impl.OK, impl.OK})
	want(t, "RecordText of the first one", impl.RecordText(first), "wide 0 0 3ff0000000000000 0000000000000000")
	want(t, "RecordText of the second one", impl.RecordText(second), "narrow 1 0 3f800000 00000000")
	spoilt, code := impl.SpoilRecord(first, 63)
	wantSignal(t, "SpoilRecord", spoilt.Wide, code, -1)
	deeds, code := impl.FinishDeeds(s, nil)
	want(t, "code of FinishDeeds", code, impl.OK)
	want(t, "FinishDeeds", deedLines(deeds), "send 0 0 0\ndeliver 0\nsend 0 1 0\ndeliver 0\nsync 0\n")
}
