package tests

import (
	"slices"
	"testing"

	"loop.example/g01155/impl"
)

// TestExamplesOfChapter2 has the examples of the document, in its order.
func TestExamplesOfChapter2(t *testing.T) {
	quarter, code := impl.TurnOf(4, 1)
	wantSignal(t, "TurnOf 4 and 1", []complex128{quarter}, code, 1i)
	half, code := impl.TurnOf(2, 1)
	wantSignal(t, "TurnOf 2 and 1", []complex128{half}, code, -1)
	four, code := impl.TransformOf([]complex128{1, 2, 3, 4})
	wantSignal(t, "TransformOf 1, 2, 3, 4", four, code, 10, -2+2i, -2, complex(-2, -2))
	three, code := impl.TransformOf([]complex128{1, 0, 0})
	wantSignal(t, "TransformOf 1, 0, 0", three, code, 1, 1, 1)
	factors, code := impl.FactorsOf(12)
	want(t, "FactorsOf 12", slices.Equal(factors, []int64{2, 2, 3}), true)
	want(t, "FactorsOf 12", code, impl.OK)
	bound, code := impl.BoundOf([]complex128{3 + 4i})
	wantSameReal(t, "BoundOf 3 + 4i", bound, 7.0/68719476736)
	want(t, "BoundOf 3 + 4i", code, impl.OK)
}
