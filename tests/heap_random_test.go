package tests

import (
	"testing"

	"loop.example/g00395/impl"
)

// heapTally counts the heaps that were checked, and those in which some cells,
// but not all, are reachable, and those whose cells come in another order.
type heapTally struct{ heaps, parts, moved int }

// checkHeapAll checks all functions with a valid heap.
func (c *heapTally) checkHeapAll(t *testing.T, h []impl.Cell, roots []impl.Val, depths ...int) {
	t.Helper()
	if !checkHeap(t, h, roots, depths...) {
		t.Fatalf("the heap is not valid: %s", heapText(h, roots))
	}
	c.heaps++
	reached := impl.Reach(h, roots)
	if len(reached) > 0 && len(reached) < len(h) {
		c.parts++
	}
	kept := []impl.Cell{}
	for _, at := range reached {
		kept = append(kept, h[at])
	}
	if cells, _ := impl.Copy(h, roots); !sameHeap(cells, kept) {
		c.moved++
	}
}

func (c *heapTally) check(t *testing.T, heaps int, parts int, moved int) {
	t.Helper()
	if c.heaps < heaps || c.parts < parts || c.moved < moved {
		t.Errorf("there were %+v", *c)
	}
}

// cellsWith are all cells of some kinds whose fields have these values.
func cellsWith(vals []impl.Val, kinds ...int) []impl.Cell {
	list := []impl.Cell{}
	for _, kind := range kinds {
		c := impl.Cell{Kind: kind}
		switch kind {
		case impl.CellCon:
			c.S = "A"
		case impl.CellFun, impl.CellRec:
			c.N = kind
		}
		for _, a := range vals {
			c.A = a
			if cellFields[kind] != "AB" {
				list = append(list, c)
				continue
			}
			for _, b := range vals {
				list = append(list, impl.Cell{Kind: kind, A: a, B: b})
			}
		}
	}
	return list
}

// heapsOf calls a function with every heap of so many of these cells.
func heapsOf(size int, cells []impl.Cell, use func(h []impl.Cell)) {
	h := make([]impl.Cell, size)
	var fill func(at int)
	fill = func(at int) {
		if at == size {
			use(h)
			return
		}
		for _, c := range cells {
			h[at] = c
			fill(at + 1)
		}
	}
	fill(0)
}

// TestAllSmallHeaps has all heaps of up to three cells of some kinds.
func TestAllSmallHeaps(t *testing.T) {
	c := heapTally{}
	everyKind := []int{impl.CellCon, impl.CellPair, impl.CellFun, impl.CellRec, impl.CellRef, impl.CellEnv}
	heapsOf(1, cellsWith(valsOf(`1 @0 - "a" () Leaf <say>`), everyKind...), func(h []impl.Cell) {
		for _, roots := range []string{"", "@0", "1 @0", "@0 @0", "1"} {
			c.checkHeapAll(t, h, valsOf(roots), -1, 0, 1, 2, 12, 13)
		}
	})
	heapsOf(2, cellsWith(valsOf("1 @0 @1"), everyKind...), func(h []impl.Cell) {
		for _, roots := range []string{"", "@0", "@1", "@1 1 @0"} {
			c.checkHeapAll(t, h, valsOf(roots), 0, 1, 3)
		}
	})
	heapsOf(3, cellsWith(valsOf("1 @0 @1 @2"), impl.CellPair, impl.CellRef), func(h []impl.Cell) {
		for _, roots := range []string{"@0", "@1", "@2 @0", "1 @1 @2"} {
			c.checkHeapAll(t, h, valsOf(roots), 2)
		}
	})
	c.check(t, 30000, 5000, 10000)
}

// TestRandomHeaps has random heaps at every depth.
func TestRandomHeaps(t *testing.T) {
	depths := []int{}
	for deep := -1; deep <= impl.MaxShow+1; deep++ {
		depths = append(depths, deep)
	}
	c := heapTally{}
	for seed := range uint32(3000) {
		g := &lot{seed: seed}
		h, roots := g.heap(g.next(40), g.next(5))
		c.checkHeapAll(t, h, roots, depths...)
	}
	c.check(t, 3000, 1000, 1000)
}

// TestRandomLargeHeaps has heaps of up to MaxCells cells, most of which only
// have numbers, or lead to cells that are near.
func TestRandomLargeHeaps(t *testing.T) {
	c := heapTally{}
	for seed := range uint32(60) {
		g := &lot{seed: seed}
		size := impl.MaxCells
		if seed%4 > 0 {
			size = 1 + g.next(impl.MaxCells)
		}
		h, roots := g.heap(size, 1+g.next(20))
		if seed%2 == 0 {
			for at := range h {
				if h[at].A.Kind == impl.VCell {
					h[at].A.N = (at + 1 + g.next(3)) % size
				}
			}
		}
		c.checkHeapAll(t, h, roots, 3)
	}
	c.check(t, 60, 40, 40)
}

// TestHeapsOfRuns has heaps as a run makes them: every cell leads to earlier
// ones only, but for references, which may have been set since.
func TestHeapsOfRuns(t *testing.T) {
	c := heapTally{}
	for seed := range uint32(1000) {
		g := &lot{seed: seed}
		h, _ := g.heap(1+g.next(100), 0)
		earlier := func(v impl.Val, at int) impl.Val {
			switch {
			case v.Kind != impl.VCell:
				return v
			case at == 0:
				return valOf("-")
			}
			return cellAt(v.N % at)
		}
		for at, c := range h {
			if c.Kind != impl.CellRef {
				h[at].A = earlier(c.A, at)
				h[at].B = earlier(c.B, at)
			}
		}
		roots := []impl.Val{}
		for range g.next(6) {
			roots = append(roots, g.val(len(h)))
		}
		c.checkHeapAll(t, h, roots, 0, 1, 4, impl.MaxShow)
	}
	c.check(t, 1000, 500, 500)
}

// TestHeapsWithoutSomeCells: cells that are swept have no influence on what is
// copied and shown, even if they are changed.
func TestHeapsWithoutSomeCells(t *testing.T) {
	changes := 0
	for seed := range uint32(1000) {
		g := &lot{seed: seed}
		h, roots := g.heap(1+g.next(30), 1+g.next(3))
		reached := impl.Reach(h, roots)
		cells, vals := impl.Copy(h, roots)
		texts := []string{}
		for _, v := range roots {
			texts = append(texts, impl.Show(h, v, 5))
		}
		for _, at := range impl.Sweep(h, roots) {
			h[at] = impl.Cell{Kind: impl.CellPair, A: g.val(len(h)), B: g.val(len(h))}
			changes++
		}
		again, same := impl.Copy(h, roots)
		if heapText(again, same) != heapText(cells, vals) || len(impl.Reach(h, roots)) != len(reached) {
			t.Fatalf("what is copied has changed: %s", heapText(again, same))
		}
		for i, v := range roots {
			if got := impl.Show(h, v, 5); got != texts[i] {
				t.Fatalf("what is shown has changed to %s from %s", got, texts[i])
			}
		}
	}
	if changes < 5000 {
		t.Errorf("there were %d changes", changes)
	}
}

// TestHeapsRenumbered: the order of the cells has no influence on what is
// copied and shown, only that of the roots and fields.
func TestHeapsRenumbered(t *testing.T) {
	for seed := range uint32(1000) {
		g := &lot{seed: seed}
		h, roots := g.heap(1+g.next(30), 1+g.next(3))
		place := make([]int, len(h))
		for i := range place {
			j := g.next(i + 1)
			place[i] = place[j]
			place[j] = i
		}
		there := func(v impl.Val) impl.Val {
			if v.Kind == impl.VCell {
				v.N = place[v.N]
			}
			return v
		}
		other, list := make([]impl.Cell, len(h)), []impl.Val{}
		for at, c := range h {
			c.A, c.B = there(c.A), there(c.B)
			other[place[at]] = c
		}
		for _, v := range roots {
			list = append(list, there(v))
		}
		cells, vals := impl.Copy(h, roots)
		again, same := impl.Copy(other, list)
		if !sameHeap(cells, again) || heapText(nil, vals) != heapText(nil, same) {
			t.Fatalf("in another order, %s is copied to %s, not %s", heapText(h, roots), heapText(again, same), heapText(cells, vals))
		}
		for i := range roots {
			if impl.Show(h, roots[i], 6) != impl.Show(other, list[i], 6) {
				t.Fatalf("in another order, a root is shown as %s", impl.Show(other, list[i], 6))
			}
		}
	}
}
