package tests

import (
	"slices"
	"testing"

	"loop.example/g00395/impl"
)

// checkReach checks Reach, and that Sweep has all the other cells.
func checkReach(t *testing.T, heap string, roots string, want ...int) {
	t.Helper()
	checkReachOf(t, heapOf(heap), valsOf(roots), want...)
}

func checkReachOf(t *testing.T, h []impl.Cell, roots []impl.Val, want ...int) {
	t.Helper()
	if !checkHeap(t, h, roots, 0, 1, 3) {
		t.Fatalf("the heap is not valid: %s", heapText(h, roots))
	}
	if got := impl.Reach(h, roots); !slices.Equal(got, want) {
		t.Errorf("Reach is %v, not %v, for %s", got, want, heapText(h, roots))
	}
	others := []int{}
	for at := range h {
		if !slices.Contains(want, at) {
			others = append(others, at)
		}
	}
	if got := impl.Sweep(h, roots); !slices.Equal(got, others) {
		t.Errorf("Sweep is %v, not %v, for %s", got, others, heapText(h, roots))
	}
}

// TestReachThroughEveryField: both A and B lead to cells, in every kind of cell
// that has them.
func TestReachThroughEveryField(t *testing.T) {
	for _, form := range []string{"con Node @2", "pair @2 1", "pair 1 @2", "fun 1 @2", "rec 1 @2", "ref @2", "env @2 -", "env 1 @2", "env - @2", "pair @2 @2", "env @2 @2"} {
		checkReach(t, "ref 0; "+form+"; ref 0; ref 0", "@1", 1, 2)
	}
	checkReach(t, "ref 0; pair @0 @3; ref 0; ref 0", "@1", 0, 1, 3)
	checkReach(t, "ref 0; env @3 @0; ref 0; ref 0", "@1", 0, 1, 3)
	checkReach(t, "pair @1 @2; pair @3 @4; pair @5 @6; ref 0; ref 0; ref 0; ref 0; ref 0", "@0", 0, 1, 2, 3, 4, 5, 6)
	checkReach(t, "pair @1 @2; pair @3 @4; pair @5 @6; ref 0; ref 0; ref 0; ref 0; ref 0", "@2", 2, 5, 6)
}

// TestReachNoOtherNumbers: an address, a number and a string are no indices.
func TestReachNoOtherNumbers(t *testing.T) {
	checkReach(t, "fun 1 -; ref 2; ref 3; ref 0", "@0", 0)
	checkReach(t, "rec 1 -; ref 2; ref 3; ref 0", "@0", 0)
	checkReach(t, "ref 1; ref 2; ref 3; ref 0", "@0", 0)
	checkReach(t, "pair 1 2; ref 2; ref 3; ref 0", "@0 1 2", 0)
	checkReach(t, `con a "1"; ref "2"; ref x; ref ()`, `@0 "1" x <say> - ()`, 0)
}

func TestReachRings(t *testing.T) {
	for _, form := range []string{"con Node @1", "pair @1 1", "pair 1 @1", "pair @1 @1", "fun 1 @1", "rec 1 @1", "ref @1", "env @1 -", "env 1 @1", "env @1 @1"} {
		checkReach(t, "ref 0; "+form+"; ref 0", "@1", 1)
		checkReach(t, "ref @1; "+form+"; ref 0", "@0", 0, 1)
		checkReach(t, "ref 1; "+form+"; ref 0", "@2", 2)
	}
	checkReach(t, "ref @1; ref @0; ref @2", "@0", 0, 1)
	checkReach(t, "ref @1; ref @0; ref @2", "@1", 0, 1)
	checkReach(t, "ref @1; ref @0; ref @2", "@2", 2)
	checkReach(t, "pair 1 @2; env @0 -; con A @1; ref @0", "@1", 0, 1, 2)
	checkReach(t, "pair 1 @2; env @0 -; con A @1; ref @0", "@3", 0, 1, 2, 3)
	checkReach(t, "pair @1 @0; pair @1 @2; pair @2 @0; ref 0", "@2", 0, 1, 2)
	// A function in its own binding.
	checkReach(t, "rec 5 -; env @0 -; fun 7 @1; env @2 @1; ref 0", "@3", 0, 1, 2, 3)
}

// TestReachSharedCells: several roots and cells lead to the same one.
func TestReachSharedCells(t *testing.T) {
	checkReach(t, "ref 0; ref @0; ref @0; pair @1 @2", "@3", 0, 1, 2, 3)
	checkReach(t, "ref 0; ref @0; ref @0; pair @1 @2", "@1 @2", 0, 1, 2)
	checkReach(t, "ref 0; ref @0; ref @0; pair @1 @2", "@0 @0 @0", 0)
	checkReach(t, "ref 0; ref @0; ref @0; pair @1 @2", "@0 @1 @2 @3 @0 @1", 0, 1, 2, 3)
	checkReach(t, "pair @1 @1; pair @2 @2; pair @3 @3; ref 0; ref @0", "@0 1 @0", 0, 1, 2, 3)
}

// TestReachRoots: the order of the roots does not matter, and those that are no
// cells add nothing.
func TestReachRoots(t *testing.T) {
	const heap = "ref 0; ref @0; ref 0; ref @2; ref 0"
	for _, roots := range []string{"@1 @3", "@3 @1", "1 @3 () @1 -", `@1 "@4" @3 x <say>`} {
		checkReach(t, heap, roots, 0, 1, 2, 3)
	}
	checkReach(t, heap, "@4 @2 @0", 0, 2, 4)
	checkReach(t, heap, "4 @2 0", 2)
	for _, roots := range []string{"", "1", "-", `() "" x <say> 0 -`} {
		checkReach(t, heap, roots)
	}
	checkReach(t, "ref 0", "@0", 0)
	for _, roots := range []string{"", "1", "- () x"} {
		checkReach(t, "", roots)
	}
}

// TestSweepAllNoneAndSome has the indices themselves.
func TestSweepAllNoneAndSome(t *testing.T) {
	const heap = "pair @1 @2; ref 0; ref @1; ref @4; ref @3"
	for roots, want := range map[string][]int{"": {0, 1, 2, 3, 4}, "7": {0, 1, 2, 3, 4}, "@0 @3": nil, "@4 @0": nil, "@0": {3, 4}, "@2": {0, 3, 4}, "@1": {0, 2, 3, 4}, "@3": {0, 1, 2}, "@1 @4": {0, 2}} {
		if got := impl.Sweep(heapOf(heap), valsOf(roots)); !slices.Equal(got, want) {
			t.Errorf("Sweep is %v, not %v, with the roots %s", got, want, roots)
		}
	}
	if got := impl.Sweep(nil, nil); len(got) != 0 {
		t.Errorf("Sweep is %v without cells", got)
	}
}

// chainHeap has cells that each lead to the next one, or the one before,
// through A or B; the last one leads to an end.
func chainHeap(size int, through string, back bool, end impl.Val) []impl.Cell {
	h := []impl.Cell{}
	for at := range size {
		next, last := at+1, at == size-1
		if back {
			next, last = at-1, at == 0
		}
		v := cellAt(next)
		if last {
			v = end
		}
		if through == "A" {
			h = append(h, impl.Cell{Kind: impl.CellRef, A: v})
		} else {
			h = append(h, impl.Cell{Kind: impl.CellEnv, A: numberVal(at), B: v})
		}
	}
	return h
}

// TestReachLongChains has chains as long as MaxCells, from their ends and from
// the middle, open and closed.
func TestReachLongChains(t *testing.T) {
	const size = impl.MaxCells
	for _, through := range []string{"A", "B"} {
		h := chainHeap(size, through, false, numberVal(1))
		for _, first := range []int{0, 1, size / 2, size - 2, size - 1} {
			checkReachOf(t, h, []impl.Val{cellAt(first)}, from(first, size-first)...)
		}
		checkReachOf(t, h, nil)
		back := chainHeap(size, through, true, valOf("()"))
		for _, first := range []int{0, 1, size / 2, size - 2, size - 1} {
			if got := impl.Reach(back, []impl.Val{cellAt(first)}); !slices.Equal(got, from(0, first+1)) {
				t.Errorf("Reach has %d cells of the chain from %d", len(got), first)
			}
			if got := impl.Sweep(back, []impl.Val{cellAt(first)}); !slices.Equal(got, from(first+1, size-1-first)) {
				t.Errorf("Sweep has %d cells of the chain from %d", len(got), first)
			}
		}
		ring := chainHeap(size, through, false, cellAt(0))
		for _, first := range []int{0, 1, size / 2, size - 1} {
			checkReachOf(t, ring, []impl.Val{cellAt(first)}, from(0, size)...)
		}
	}
	tooLong := chainHeap(size+1, "A", false, numberVal(1))
	if impl.Reach(tooLong, valsOf("@0")) != nil || impl.Sweep(tooLong, valsOf("@0")) != nil || impl.Sweep(tooLong, nil) != nil {
		t.Error("there is an answer for more than MaxCells cells")
	}
}

// TestReachWideHeaps has trees, and cells that all lead to the same two.
func TestReachWideHeaps(t *testing.T) {
	const size = impl.MaxCells
	tree, shared := []impl.Cell{}, []impl.Cell{}
	for at := range size {
		c := impl.Cell{Kind: impl.CellPair, A: numberVal(at), B: numberVal(at)}
		if 2*at+1 < size {
			c.A = cellAt(2*at + 1)
		}
		if 2*at+2 < size {
			c.B = cellAt(2*at + 2)
		}
		tree = append(tree, c)
		shared = append(shared, impl.Cell{Kind: impl.CellPair, A: cellAt(size - 1), B: cellAt(0)})
	}
	checkReachOf(t, tree, valsOf("@0"), from(0, size)...)
	checkReachOf(t, tree, valsOf("@1000"), 1000, 2001, 2002)
	checkReachOf(t, shared, valsOf("@7"), 0, 7, size-1)
	all := []impl.Val{}
	for at := range size {
		all = append(all, cellAt(size-1-at))
	}
	checkReachOf(t, shared, all, from(0, size)...)
}
