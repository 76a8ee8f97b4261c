package tests

import (
	"testing"

	"loop.example/g01155/impl"
)

// TestExamplesOfChapter3 has the examples of the document, in its order.
func TestExamplesOfChapter3(t *testing.T) {
	hann, code := impl.WindowOf(impl.WdHann, 4)
	wantReals(t, "WindowOf WdHann and 4", hann, code, 0, 0.5, 1, 0.5)
	gain, code := impl.GainOf(hann)
	wantReals(t, "its GainOf", []float64{gain}, code, 2)
	power, code := impl.PowerOf(hann)
	wantReals(t, "its PowerOf", []float64{power}, code, 1.5)
	sums, code := impl.OverlapSums(hann, 2)
	wantReals(t, "its OverlapSums", sums, code, 1, 1)
	triangle, code := impl.WindowOf(impl.WdTriangle, 4)
	wantReals(t, "WindowOf WdTriangle and 4", triangle, code, 0, 0.5, 1, 0.5)
	x := []complex128{1, 2, 3, 4, 5}
	count, code := impl.BlockCount(5, 4, 2)
	want(t, "BlockCount", [2]int64{count, code}, [2]int64{2, impl.OK})
	blocks, code := impl.BlocksOf(x, 4, 2)
	wantBlocks(t, "BlocksOf", blocks, code, x[:4], []complex128{3, 4, 5, 0})
	signal, code := impl.OverlapAdd(blocks, 2)
	wantSignal(t, "OverlapAdd", signal, code, 1, 2, 6, 8, 5, 0)
}
