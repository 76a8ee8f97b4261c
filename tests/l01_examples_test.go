package tests

import (
	"testing"

	"loop.example/g01155/impl"
)

// TestExamplesOfChapter1 has the examples of the document, in its order.
func TestExamplesOfChapter1(t *testing.T) {
	wantSame(t, "Product", impl.Product(1+2i, 3+4i), -5+10i)
	wantSame(t, "Quotient", impl.Quotient(-5+10i, 1+2i), 3+4i)
	wantSameReal(t, "SizeOf", impl.SizeOf(3+4i), 5)
	wantSame(t, "LossOf", impl.LossOf(0.25), 0)
	units, code := impl.UnitsApart(0, minus0)
	want(t, "UnitsApart", units, 0)
	want(t, "UnitsApart", code, impl.OK)
	want(t, "BitsText", impl.BitsText(1), "3ff0000000000000 0000000000000000")
}
