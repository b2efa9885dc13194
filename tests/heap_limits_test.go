package tests

import (
	"fmt"
	"reflect"
	"slices"
	"testing"

	"loop.example/g00395/impl"
)

// heapAnswers are the results of all functions, as they are before they are
// spoilt.
func heapAnswers(h []impl.Cell, roots []impl.Val) string {
	ok, reached, swept := impl.HeapOk(h, roots), impl.Reach(h, roots), impl.Sweep(h, roots)
	cells, vals := impl.Copy(h, roots)
	text := fmt.Sprint(ok, reached, swept, cells, vals)
	for _, v := range roots {
		text += fmt.Sprint(impl.Show(h, v, 4))
	}
	spoilNumbers(reached)
	spoilNumbers(swept)
	for i := range cells[:cap(cells)] {
		cells[:cap(cells)][i] = impl.Cell{Kind: 91, A: numberVal(92), B: cellAt(93)}
	}
	for i := range vals[:cap(vals)] {
		vals[:cap(vals)][i] = impl.Val{Kind: 94, S: "spoilt"}
	}
	return text
}

// TestHeapFunctionsLeaveTheirArguments: nothing is changed, not even behind the
// ends, whether the heap is valid or not, and a result that is changed has no
// influence on anything else.
func TestHeapFunctionsLeaveTheirArguments(t *testing.T) {
	for _, heap := range []string{"", "ref 1", "ref @0", someCells, "ref 1; pair @0 @3; con A @1; env @2 @1; rec 5 @3; fun 7 @4; ref @9; ref @7; ref @6; ref @8", "ref @1", "ref 1; pair @0 @-1"} {
		for _, words := range []string{"", "1", "@0", `@0 1 @1 "a" @0`, "@5 @4 @3 @2", "@-1", "1 @99", "- () x <say>"} {
			h, roots := roomy(heapOf(heap), impl.Cell{Kind: impl.CellRef, A: numberVal(95)}), roomy(valsOf(words), cellAt(96))
			keptCells, keptRoots := slices.Clone(h[:cap(h)]), slices.Clone(roots[:cap(roots)])
			want := heapAnswers(h, roots)
			for range 2 {
				if got := heapAnswers(h, roots); got != want {
					t.Errorf("different answers for %s with %s: %s, %s", heap, words, got, want)
				}
			}
			if !reflect.DeepEqual(h[:cap(h)], keptCells) || !reflect.DeepEqual(roots[:cap(roots)], keptRoots) {
				t.Errorf("an argument has changed: %s with %s", heap, words)
			}
			if got := heapAnswers(slices.Clip(heapOf(heap)), slices.Clip(valsOf(words))); got != want {
				t.Errorf("what is behind the arguments changes the answers for %s with %s: %s, %s", heap, words, got, want)
			}
		}
	}
}

// TestHeapResultsStay: a result does not change with the arguments, and not with
// later calls.
func TestHeapResultsStay(t *testing.T) {
	h, roots := heapOf(someCells), valsOf("@5 1 @0")
	reached, swept := impl.Reach(h, roots), impl.Sweep(h, roots)
	cells, vals := impl.Copy(h, roots)
	before := fmt.Sprint(reached, swept, cells, vals)
	for i := range h {
		h[i] = impl.Cell{Kind: 97}
	}
	for i := range roots {
		roots[i] = impl.Val{Kind: 98}
	}
	for range 3 {
		impl.Copy(heapOf("ref @1; ref @0"), valsOf("@1"))
		impl.Reach(heapOf("ref @1; ref @0"), valsOf("@1"))
		impl.Sweep(heapOf("ref @1; ref @0"), nil)
		impl.Copy(nil, valsOf("@0"))
	}
	if after := fmt.Sprint(reached, swept, cells, vals); after != before {
		t.Errorf("the results have changed from %s to %s", before, after)
	}
}

// TestHeapNilAndEmpty: a nil slice and an empty one are the same.
func TestHeapNilAndEmpty(t *testing.T) {
	for _, h := range [][]impl.Cell{nil, {}, heapOf("ref 1")} {
		for _, roots := range [][]impl.Val{nil, {}} {
			cells, vals := impl.Copy(h, roots)
			if !impl.HeapOk(h, roots) || len(impl.Reach(h, roots)) > 0 || len(impl.Sweep(h, roots)) != len(h) || len(cells) > 0 || len(vals) > 0 {
				t.Errorf("the answers for %s are wrong", heapText(h, roots))
			}
		}
	}
	for _, h := range [][]impl.Cell{nil, {}} {
		for _, deep := range []int{-1, 0, 1, impl.MaxShow} {
			if impl.Show(h, numberVal(1), deep) != "1" || impl.Show(h, cellAt(0), deep) != "" {
				t.Errorf("Show is wrong in an empty heap at the depth %d", deep)
			}
		}
		if impl.Show(h, numberVal(1), impl.MaxShow+1) != "" {
			t.Error("Show is not empty for a depth that is too great")
		}
	}
}
