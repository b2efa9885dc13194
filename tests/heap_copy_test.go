package tests

import (
	"slices"
	"testing"

	"loop.example/g00395/impl"
)

// checkCopy checks the new heap and the roots as they are there.
func checkCopy(t *testing.T, heap string, roots string, wantHeap string, wantRoots string) {
	t.Helper()
	h, list := heapOf(heap), valsOf(roots)
	if !checkHeap(t, h, list, 0, 1, 2, 5, impl.MaxShow) {
		t.Fatalf("the heap is not valid: %s", heapText(h, list))
	}
	cells, vals := impl.Copy(h, list)
	if !sameHeap(cells, heapOf(wantHeap)) || !slices.Equal(vals, valsOf(wantRoots)) {
		t.Errorf("%s with %s is copied to %s, not %s with %s", heap, roots, heapText(cells, vals), wantHeap, wantRoots)
	}
}

// TestCopyEveryKind: every field of a cell is kept, and every kind of value.
func TestCopyEveryKind(t *testing.T) {
	checkCopy(t, "ref 0; con Node 1", "@1", "con Node 1", "@0")
	checkCopy(t, "ref 0; con :: @0", "@1", "con :: @1; ref 0", "@0")
	checkCopy(t, `ref 0; pair 1 "a"`, "@1", `pair 1 "a"`, "@0")
	checkCopy(t, "ref 0; pair @0 @1", "@1", "pair @1 @0; ref 0", "@0")
	checkCopy(t, "ref 0; fun 7 -", "@1", "fun 7 -", "@0")
	checkCopy(t, "ref 0; fun 1 @0", "@1", "fun 1 @1; ref 0", "@0")
	checkCopy(t, "ref 0; rec 7 -", "@1", "rec 7 -", "@0")
	checkCopy(t, "ref 0; rec 1 @0", "@1", "rec 1 @1; ref 0", "@0")
	checkCopy(t, "ref 0; ref Leaf", "@1", "ref Leaf", "@0")
	checkCopy(t, "ref 0; ref @1", "@1", "ref @0", "@0")
	checkCopy(t, "ref 0; env () -", "@1", "env () -", "@0")
	checkCopy(t, "ref 0; env <say> @0", "@1", "env <say> @1; ref 0", "@0")
	for _, word := range []string{"1", "-1", "()", "Leaf", "<say>", "-", `"a"`, `""`, "0"} {
		checkCopy(t, "ref 0; ref 0; pair "+word+" @1; env @2 "+word, "@3 "+word, "env @1 "+word+"; pair "+word+" @2; ref 0", "@0 "+word)
	}
}

// TestCopyRoots: the cells of the roots come first, root by root, even those
// that other cells lead to.
func TestCopyRoots(t *testing.T) {
	checkCopy(t, "ref 10; ref 11; ref 12", "@0 @1 @2", "ref 10; ref 11; ref 12", "@0 @1 @2")
	checkCopy(t, "ref 10; ref 11; ref 12", "@2 @1 @0", "ref 12; ref 11; ref 10", "@0 @1 @2")
	checkCopy(t, "ref 10; ref 11; ref 12", "@1 @2 @1 @0 @2", "ref 11; ref 12; ref 10", "@0 @1 @0 @2 @1")
	checkCopy(t, "ref 10; ref 11; ref 12", "5 @2 () @2 x", "ref 12", "5 @0 () @0 x")
	checkCopy(t, "ref @1; ref @2; ref 12", "@0 @2", "ref @2; ref 12; ref @1", "@0 @1")
	checkCopy(t, "ref @1; ref @2; ref 12", "@2 @0", "ref 12; ref @2; ref @0", "@0 @1")
	checkCopy(t, "ref @1; ref @2; ref 12", "@1 @0 @2", "ref @2; ref @0; ref 12", "@0 @1 @2")
	checkCopy(t, "pair @1 @2; ref 11; ref 12; ref 13", "@0 @3 @2", "pair @3 @2; ref 13; ref 12; ref 11", "@0 @1 @2")
	checkCopy(t, "ref 10; ref 11", `1 "a" () Leaf <say> -`, "", `1 "a" () Leaf <say> -`)
	checkCopy(t, "ref 10; ref 11", "", "", "")
	checkCopy(t, "", "", "", "")
	checkCopy(t, "", "1 -", "", "1 -")
}

// TestCopyOrder: the cells of the A and the B of each cell of the new heap come
// in the order of the new heap, so not those of a cell's A ahead of its B.
func TestCopyOrder(t *testing.T) {
	checkCopy(t, "ref 10; ref 11; pair @0 @1", "@2", "pair @1 @2; ref 10; ref 11", "@0")
	checkCopy(t, "ref 10; ref 11; pair @1 @0", "@2", "pair @1 @2; ref 11; ref 10", "@0")
	checkCopy(t, "ref 10; ref 11; env @1 @0", "@2", "env @1 @2; ref 11; ref 10", "@0")
	checkCopy(t, "pair @1 @2; pair @3 @4; pair @5 @6; ref 13; ref 14; ref 15; ref 16", "@0", "pair @1 @2; pair @3 @4; pair @5 @6; ref 13; ref 14; ref 15; ref 16", "@0")
	checkCopy(t, "pair @1 @4; pair @2 @3; ref 12; ref 13; pair @5 @6; ref 15; ref 16", "@0", "pair @1 @2; pair @3 @4; pair @5 @6; ref 12; ref 13; ref 15; ref 16", "@0")
	checkCopy(t, "pair @1 @2; ref @3; ref @4; ref 13; ref 14", "@0", "pair @1 @2; ref @3; ref @4; ref 13; ref 14", "@0")
	checkCopy(t, "ref @2; ref @3; ref 12; ref 13", "@1 @0", "ref @2; ref @3; ref 13; ref 12", "@0 @1")
	checkCopy(t, "pair @3 @2; pair @2 @3; ref 12; ref 13", "@0 @1", "pair @2 @3; pair @3 @2; ref 13; ref 12", "@0 @1")
	checkCopy(t, "env @1 @2; con A @3; env @4 -; pair 1 @2; fun 5 @2", "@0", "env @1 @2; con A @3; env @4 -; pair 1 @2; fun 5 @2", "@0")
}

// TestCopyOnce: a cell to which several lead is there once, and so is a ring.
func TestCopyOnce(t *testing.T) {
	checkCopy(t, "ref 10; pair @0 @0", "@1", "pair @1 @1; ref 10", "@0")
	checkCopy(t, "ref 10; pair @0 @0", "@0 @1 @0", "ref 10; pair @0 @0", "@0 @1 @0")
	checkCopy(t, "ref 10; ref @0; ref @0; pair @1 @2", "@3", "pair @1 @2; ref @3; ref @3; ref 10", "@0")
	checkCopy(t, "ref @1; ref @0; ref @2", "@1", "ref @1; ref @0", "@0")
	checkCopy(t, "ref @1; ref @0; ref @2", "@2", "ref @0", "@0")
	checkCopy(t, "ref @1; ref @0; ref @2", "@2 @0", "ref @0; ref @2; ref @1", "@0 @1")
	checkCopy(t, "pair @0 @0", "@0 @0", "pair @0 @0", "@0 @0")
	checkCopy(t, "pair @2 @1; pair @0 @2; pair @1 @0", "@1", "pair @1 @2; pair @2 @0; pair @0 @1", "@0")
	checkCopy(t, "ref 0; rec 5 -; env @1 -; ref 0; fun 7 @2; env @4 @2", "@5", "env @1 @2; fun 7 @2; env @3 -; rec 5 -", "@0")
}

// TestCopyWhatCannotBeReached: such cells are not there, even if they lead to
// those that are.
func TestCopyWhatCannotBeReached(t *testing.T) {
	checkCopy(t, "ref @1; ref 11; ref @1; pair @0 @1", "@1", "ref 11", "@0")
	checkCopy(t, "ref @1; ref @0; ref 12", "@2", "ref 12", "@0")
	checkCopy(t, "fun 1 -; ref 11", "@0 1", "fun 1 -", "@0 1")
	checkCopy(t, "ref 1; ref 0", "@0", "ref 1", "@0")
}

// TestCopyLongChains has chains as long as MaxCells, which come in their own
// order.
func TestCopyLongChains(t *testing.T) {
	const size = impl.MaxCells
	for _, through := range []string{"A", "B"} {
		for _, end := range []impl.Val{numberVal(1), valOf("-")} {
			h := chainHeap(size, through, false, end)
			cells, vals := impl.Copy(h, valsOf("@0"))
			if !sameHeap(cells, h) || !slices.Equal(vals, valsOf("@0")) {
				t.Errorf("the chain is copied to %s", heapText(cells, vals))
			}
			cells, vals = impl.Copy(chainHeap(size, through, true, end), []impl.Val{cellAt(size - 1), cellAt(0)})
			if len(cells) != size || !slices.Equal(vals, valsOf("@0 @1")) {
				t.Fatalf("the chain is copied to %d cells with %v", len(cells), vals)
			}
			for at, c := range cells {
				next := cellAt(at + 1)
				switch at {
				case 0:
					next = cellAt(2)
				case 1:
					next = end
				case size - 1:
					next = cellAt(1)
				}
				if through == "A" && c.A != next || through == "B" && c.B != next {
					t.Fatalf("the cell %d is copied to %+v", at, c)
				}
			}
		}
		checkHeap(t, chainHeap(size, through, true, cellAt(size-1)), []impl.Val{cellAt(7), numberVal(1), cellAt(3000)}, 0, impl.MaxShow)
	}
	if cells, vals := impl.Copy(chainHeap(size+1, "A", false, numberVal(1)), valsOf("@0 1")); cells != nil || vals != nil {
		t.Error("there is an answer for more than MaxCells cells")
	}
}

// TestCopyOfBadArguments: there is nothing, not even the roots that are valid.
func TestCopyOfBadArguments(t *testing.T) {
	for _, e := range []struct {
		h     []impl.Cell
		roots []impl.Val
	}{
		{heapOf("ref 1"), valsOf("@1")}, {heapOf("ref 1"), valsOf("@0 @-1")}, {heapOf("ref @1"), valsOf("1")}, {heapOf("ref @1"), nil}, {nil, valsOf("@0")}, {nil, valsOf("1 @0")}, {heapOf("ref 1"), []impl.Val{{}}}, {[]impl.Cell{{}}, nil},
		{heapOf("ref 1; ref @-1"), valsOf("@0")}, {append(heapOf("ref 1"), impl.Cell{Kind: impl.CellRef, A: numberVal(1), B: numberVal(1)}), valsOf("@0")},
	} {
		if checkHeap(t, e.h, e.roots, 0, 1) {
			t.Errorf("the heap is valid: %s", heapText(e.h, e.roots))
		}
	}
}
