package tests

import (
	"testing"

	"loop.example/g01155/impl"
)

// TestExamplesOfChapter8 has the example of the document.
func TestExamplesOfChapter8(t *testing.T) {
	e := startOf(t, "delay 1", "block 2")
	e, made, code := impl.PushInto(e, []complex128{1, 2, 3})
	wantSignal(t, "PushInto of three", made, code, 1, -1)
	want(t, "holds", len(e.Holds), 2)
	wantSignal(t, "held by the first step", e.Holds[0].Held, code, 3)
	wantSignal(t, "held by the second step", e.Holds[1].Held, code, 2)
	_, made, code = impl.PushInto(e, []complex128{4})
	wantSignal(t, "PushInto of one more", made, code, 5, -1)
}
