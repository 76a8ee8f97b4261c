package tests

import (
	"testing"

	"loop.example/g01155/impl"
)

// TestExamplesOfChapter6 has the examples of the document, in its order.
func TestExamplesOfChapter6(t *testing.T) {
	powers, code := impl.PowersOf([]complex128{3 + 4i, 2})
	wantReals(t, "PowersOf", powers, code, 25, 4)
	places, code := impl.PeaksOf([]float64{1, 3, 2, 5, 0}, 2)
	wantPlaces(t, "PeaksOf", places, code, 1, 3)
	offset, value, code := impl.PeakBetween([]float64{1, 4, 3}, 1)
	wantTop(t, "PeakBetween", offset, value, code, 0.25, 4.125)
	centroid, code := impl.CentroidOf([]float64{1, 0, 3})
	wantReal(t, "CentroidOf", centroid, code, 1.5)
	wantSameReal(t, "PhaseOf -1", impl.PhaseOf(-1), 0.5)
	wantSameReal(t, "PhaseOf 2i", impl.PhaseOf(2i), 0.25)
	phases, code := impl.UnwrapPhases([]float64{0.25, 0.5, -0.25})
	wantReals(t, "UnwrapPhases", phases, code, 0.25, 0.5, 0.75)
	bin, code := impl.BinOf([]complex128{1, 2, 3}, 0)
	wantSignal(t, "BinOf", []complex128{bin}, code, 6)
}
