package tests

import (
	"testing"

	"loop.example/g01155/impl"
)

// TestExamplesOfChapter5 has the examples of the document, in its order.
func TestExamplesOfChapter5(t *testing.T) {
	low, high, code := impl.HaarSplit([]complex128{1, 3, 5})
	wantSignal(t, "HaarSplit: low", low, code, 2, 5)
	wantSignal(t, "HaarSplit: high", high, code, -1)
	x, code := impl.HaarJoin(low, high)
	wantSignal(t, "HaarJoin", x, code, 1, 3, 5)
	low, high, code = impl.LiftSplit([]complex128{1, 3, 5, 7})
	wantSignal(t, "LiftSplit: high", high, code, 0, 2)
	wantSignal(t, "LiftSplit: low", low, code, 1, 5.5)
	folded, code := impl.FoldBlock([]complex128{1, 2, 3, 4})
	wantSignal(t, "FoldBlock", folded, code, complex(-7, minus0), -1)
	unfolded, code := impl.UnfoldBlock(folded)
	wantSignal(t, "UnfoldBlock", unfolded, code, -1, complex(1, minus0), 7, 7)
	expanded, code := impl.Expand([]complex128{1, 2}, 2)
	wantSignal(t, "Expand", expanded, code, 1, 0, 2, 0)
}
