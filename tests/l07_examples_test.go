package tests

import (
	"testing"

	"loop.example/g01155/impl"
)

// TestExamplesOfChapter7 has the examples of the document, in its order.
func TestExamplesOfChapter7(t *testing.T) {
	made, code := impl.RunPlan(planFrom(t, "delay 1", "keep 2"), []complex128{1, 2, 3, 4})
	wantSignal(t, "delay and keep", made, code, 0, 2)
	made, code = impl.RunPlan(planFrom(t, "gain 8 0"), []complex128{1})
	wantSignal(t, "gain", made, code, 0.5)
	made, code = impl.RunPlan(planFrom(t, "stuff 2", "filter 16 16"), []complex128{1, 2})
	wantSignal(t, "stuff and filter", made, code, 1, 1, 2, 2)
	tidy, code := impl.TidyPlan(planFrom(t, "narrow", "delay 2", "delay 3", "mirror", "mirror"))
	want(t, "TidyPlan", impl.PlanText(tidy), "delay 5\nnarrow\n")
	want(t, "TidyPlan: code", code, impl.OK)
	needed, code := impl.NeededFor(planFrom(t, "block 4"), 5)
	want(t, "NeededFor", needed, 8)
	want(t, "NeededFor: code", code, impl.OK)
}
