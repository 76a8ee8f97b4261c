package tests

import (
	"testing"

	"loop.example/g01155/impl"
)

// TestExamplesOfChapter4 has the examples of the document, in its order.
func TestExamplesOfChapter4(t *testing.T) {
	x := []complex128{1, 2, 3}
	got, code := impl.Convolve(x, []complex128{1, -1})
	wantSignal(t, "Convolve", got, code, 1, 1, 1, -3)
	got, code = impl.CircleConvolve(x, []complex128{1, -1, 0})
	wantSignal(t, "CircleConvolve", got, code, -2, 1, 1)
	got, code = impl.Correlate([]complex128{0, 0, 1}, []complex128{1})
	wantSignal(t, "Correlate", got, code, 0, 0, 1)
	lag, size, code := impl.BestLag([]complex128{0, 0, 1}, []complex128{1})
	want(t, "BestLag", [2]int64{lag, code}, [2]int64{2, impl.OK})
	wantSameReal(t, "BestLag: size", size, 1)
	got, code = impl.RecurSignal([]complex128{1, 0, 0}, []complex128{0.5})
	wantSignal(t, "RecurSignal", got, code, 1, 0.5, 0.25)
	got, code = impl.DivideSpectra([]complex128{2}, []complex128{4}, 1)
	wantSignal(t, "DivideSpectra", got, code, 0.5)
}
