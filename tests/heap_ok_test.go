package tests

import (
	"math"
	"slices"
	"strings"
	"testing"

	"loop.example/g00395/impl"
)

// someCells are valid cells of every kind, three of them.
const someCells = "con Node @3; pair 1 @1; fun 7 @5; rec 9 -; ref @4; env 2 @5"

// checkHeapIs checks whether a heap with roots is valid. No function returns
// anything if it is not.
func checkHeapIs(t *testing.T, what string, want bool, h []impl.Cell, roots ...impl.Val) {
	t.Helper()
	if got := checkHeap(t, h, roots, 0, 2); got != want {
		t.Errorf("%s: HeapOk is %v for %s", what, got, heapText(h, roots))
	}
}

// checkValIs puts a value in every place: in the roots, and in A and B of every
// kind of cell that has them.
func checkValIs(t *testing.T, want bool, v impl.Val) {
	t.Helper()
	for _, roots := range [][]impl.Val{{v}, {v, numberVal(1), cellAt(0)}, {numberVal(1), v}, {cellAt(0), cellAt(1), v}} {
		checkHeapIs(t, "a root", want, heapOf(someCells), roots...)
	}
	shown := ""
	if want {
		shown = secondShow(heapOf(someCells), v, 1)
	}
	if got := impl.Show(heapOf(someCells), v, 1); got != shown {
		t.Errorf("Show is %q, not %q, for %+v", got, shown, v)
	}
	for at, c := range heapOf(someCells) {
		h := heapOf(someCells)
		h[at].A = v
		checkHeapIs(t, "A", want, h, numberVal(1))
		checkHeapIs(t, "A", want, h)
		h = heapOf(someCells)
		h[at].B = v
		hasB := c.Kind == impl.CellPair || c.Kind == impl.CellEnv
		checkHeapIs(t, "B", want && hasB || !hasB && v == impl.Val{}, h, cellAt(at))
	}
}

// rightVals are valid values in a heap of six cells, with the least and the
// greatest N, and with any S.
func rightVals() []impl.Val {
	list := []impl.Val{{Kind: impl.VUnit}, {Kind: impl.VNone}}
	for _, n := range []int{impl.MinInt, impl.MinInt + 1, -1, 0, 1, impl.MaxInt - 1, impl.MaxInt} {
		list = append(list, numberVal(n))
	}
	for n := range 6 {
		list = append(list, cellAt(n))
	}
	for _, s := range []string{"x", "A", "print", "::", "[]", "\x00", "\xff\n\"", " ", "let", strings.Repeat("x", impl.MaxText+impl.MaxStr)} {
		list = append(list, impl.Val{Kind: impl.VStr, S: s}, impl.Val{Kind: impl.VTag, S: s}, impl.Val{Kind: impl.VGiven, S: s})
	}
	return append(list, impl.Val{Kind: impl.VStr})
}

func TestHeapOkOfEveryKindOfValue(t *testing.T) {
	kinds := map[int]bool{}
	for _, v := range rightVals() {
		checkValIs(t, true, v)
		kinds[v.Kind] = true
	}
	if len(kinds) != 7 {
		t.Errorf("there are %d kinds", len(kinds))
	}
}

// TestHeapOkNumbersOfValues has N just outside of its range, or not 0 where a
// kind does not use it, and far from it.
func TestHeapOkNumbersOfValues(t *testing.T) {
	for _, v := range rightVals() {
		least, most := 0, 0
		switch v.Kind {
		case impl.VInt:
			least, most = impl.MinInt, impl.MaxInt
		case impl.VCell:
			most = 5
		}
		if v.N != least && v.N != most || len(v.S) > 10 {
			continue
		}
		for _, n := range append([]int{least - 1, most + 1, most + 2, 1, impl.MaxInt, impl.MinInt}, farNumbers...) {
			changed := v
			changed.N = n
			checkValIs(t, n >= least && n <= most, changed)
		}
	}
}

// TestHeapOkTextsOfValues has an S where a kind does not use it, and none where
// it has to be there.
func TestHeapOkTextsOfValues(t *testing.T) {
	for _, v := range rightVals() {
		if valFields[v.Kind] != "S" {
			for _, s := range []string{"x", " ", "\x00", "A", "print"} {
				changed := v
				changed.S = s
				checkValIs(t, false, changed)
			}
		}
	}
	checkValIs(t, true, impl.Val{Kind: impl.VStr})
	checkValIs(t, false, impl.Val{Kind: impl.VTag})
	checkValIs(t, false, impl.Val{Kind: impl.VGiven})
}

func TestHeapOkUnknownKindsOfValues(t *testing.T) {
	for _, kind := range append([]int{0, 8, 9, 100}, farNumbers...) {
		for _, v := range []impl.Val{{Kind: kind}, {Kind: kind, N: 1}, {Kind: kind, S: "x"}, {Kind: kind, N: 1, S: "x"}} {
			checkValIs(t, false, v)
		}
	}
}

// TestHeapOkEmptyHeap: there may be roots, but none of them is a cell.
func TestHeapOkEmptyHeap(t *testing.T) {
	for _, h := range [][]impl.Cell{nil, {}} {
		checkHeapIs(t, "no roots", true, h)
		if !impl.HeapOk(h, []impl.Val{}) || !impl.HeapOk(h, nil) {
			t.Error("the empty heap is not valid without roots")
		}
		checkHeapIs(t, "roots", true, h, valsOf(`1 "a" () Leaf <say> -`)...)
		checkHeapIs(t, "a cell", false, h, cellAt(0))
		checkHeapIs(t, "a cell among others", false, h, numberVal(1), cellAt(0), numberVal(2))
		checkHeapIs(t, "a cell at -1", false, h, cellAt(-1))
		checkHeapIs(t, "the zero value", false, h, impl.Val{})
	}
}

func TestHeapOkOfEveryKindOfCell(t *testing.T) {
	for _, text := range []string{
		"con Node 1", "con x -", `con :: "a"`, "con let @0", "pair 1 2", "pair @0 @0", "pair - -", "fun 0 -", "fun 7 @0", "fun 1 2", "rec 0 -", "rec 3 @0", "ref 1", "ref @0", "ref -", "env 1 -", "env @0 @0", "env 1 2", "env - <say>", someCells,
	} {
		checkHeapIs(t, text, true, heapOf(text))
		checkHeapIs(t, text, true, heapOf(text), cellAt(0))
		checkHeapIs(t, text, true, heapOf(text), cellAt(len(heapOf(text))-1), cellAt(0), numberVal(1))
		checkHeapIs(t, text, false, heapOf(text), cellAt(len(heapOf(text))))
	}
}

// TestHeapOkOwnFieldsOfCells: the chapter sets no limits for the address of a
// function and the name of a constructor.
func TestHeapOkOwnFieldsOfCells(t *testing.T) {
	for _, kind := range []int{impl.CellFun, impl.CellRec} {
		for _, n := range append([]int{0, 1, impl.MaxCode - 1, impl.MaxCode, impl.MaxInt, impl.MaxInt + 1, impl.MinInt - 1}, farNumbers...) {
			checkHeapIs(t, "an address", true, []impl.Cell{{Kind: kind, N: n, A: valOf("-")}}, cellAt(0))
		}
	}
	for _, s := range append(badNames(), "", "A", "::", "[]", "\x00", strings.Repeat("x", impl.MaxText)) {
		checkHeapIs(t, "a name", true, []impl.Cell{{Kind: impl.CellCon, S: s, A: valOf("1")}}, cellAt(0))
	}
}

// TestHeapOkOtherFieldsOfCells: a kind has no fields but its own, and it has the
// values of its own fields.
func TestHeapOkOtherFieldsOfCells(t *testing.T) {
	for at, c := range heapOf(someCells) {
		check := func(what string, want bool, change func(c *impl.Cell)) {
			t.Helper()
			h := heapOf(someCells)
			change(&h[at])
			checkHeapIs(t, what, want, h)
			checkHeapIs(t, what, want, h, cellAt(at))
			checkHeapIs(t, what, want, h, numberVal(1))
		}
		fields := cellFields[c.Kind]
		for _, n := range append([]int{1}, farNumbers...) {
			check("N", strings.Contains(fields, "N"), func(c *impl.Cell) { c.N = n })
		}
		for _, s := range []string{"x", " ", "\x00", "Node"} {
			check("S", strings.Contains(fields, "S"), func(c *impl.Cell) { c.S = s })
		}
		hasB := strings.Contains(fields, "B")
		for _, v := range valsOf(`0 1 "" "a" () Leaf <say> @0 @5 -`) {
			check("A", true, func(c *impl.Cell) { c.A = v })
			check("B", hasB, func(c *impl.Cell) { c.B = v })
		}
		for _, v := range []impl.Val{{N: 1}, {S: "x"}, {N: -1, S: "x"}, {Kind: 8}, {Kind: -1}} {
			check("A", false, func(c *impl.Cell) { c.A = v })
			check("B", false, func(c *impl.Cell) { c.B = v })
		}
		check("no A", false, func(c *impl.Cell) { c.A = impl.Val{} })
		check("no B", !hasB, func(c *impl.Cell) { c.B = impl.Val{} })
	}
}

func TestHeapOkUnknownKindsOfCells(t *testing.T) {
	for _, kind := range append([]int{0, 7, 8, 100}, farNumbers...) {
		for _, c := range append(heapOf(someCells), impl.Cell{}, impl.Cell{N: 1}, impl.Cell{S: "x"}) {
			c.Kind = kind
			for at := range 6 {
				h := heapOf(someCells)
				h[at] = c
				checkHeapIs(t, "an unknown kind", false, h)
				checkHeapIs(t, "an unknown kind", false, h, numberVal(1), cellAt(0))
			}
		}
	}
}

// TestHeapOkEveryPlace puts an invalid cell in every place of a heap, and an
// invalid value in every place of the roots, where nothing leads to them.
func TestHeapOkEveryPlace(t *testing.T) {
	const size = 40
	good := slices.Repeat(heapOf("ref 1; env 1 -"), size/2)
	for at := range size {
		for _, bad := range []impl.Cell{{}, {Kind: impl.CellRef}, {Kind: impl.CellRef, A: cellAt(size)}, {Kind: impl.CellPair, A: numberVal(1)}, {Kind: impl.CellRef, N: 1, A: numberVal(1)}} {
			h := slices.Clone(good)
			h[at] = bad
			checkHeapIs(t, "a bad cell", false, h)
			checkHeapIs(t, "a bad cell", false, h, cellAt((at+1)%size))
		}
		for _, bad := range []impl.Val{{}, cellAt(size), cellAt(-1), numberVal(impl.MaxInt + 1), {Kind: impl.VTag}} {
			roots := slices.Repeat(valsOf("1 @1"), size/2)
			roots[at] = bad
			checkHeapIs(t, "a bad root", false, good, roots...)
		}
	}
}

// TestHeapOkCounts has heaps of MaxCells cells, less and more. There is no limit
// for the roots.
func TestHeapOkCounts(t *testing.T) {
	for _, count := range []int{1, 2, impl.MaxCells - 1, impl.MaxCells, impl.MaxCells + 1, impl.MaxCells + 2, 2 * impl.MaxCells} {
		h := slices.Repeat(heapOf("ref 1"), count)
		want := count <= 4000
		checkHeapIs(t, "no roots", want, h)
		checkHeapIs(t, "the first cell", want, h, cellAt(0))
		checkHeapIs(t, "the last cell", want, h, cellAt(count-1))
		checkHeapIs(t, "a number", want, h, numberVal(1))
		checkHeapIs(t, "one cell too far", false, h, cellAt(count))
		h[0].A = cellAt(count - 1)
		checkHeapIs(t, "a cell with the last one", want, h, cellAt(0))
		h[0].A = cellAt(count)
		checkHeapIs(t, "a cell with one too far", false, h, numberVal(1))
	}
	for _, count := range []int{impl.MaxCells, impl.MaxCells + 1, 20000} {
		checkHeapIs(t, "many roots", true, heapOf("ref 1"), slices.Repeat(valsOf("@0 1"), count)...)
		checkHeapIs(t, "many roots of no heap", true, nil, slices.Repeat(valsOf("() 1"), count)...)
	}
}

// TestHeapConstants: the limits and kinds are those of the document.
func TestHeapConstants(t *testing.T) {
	vals := []int{impl.VInt, impl.VStr, impl.VUnit, impl.VTag, impl.VGiven, impl.VCell, impl.VNone}
	cells := []int{impl.CellCon, impl.CellPair, impl.CellFun, impl.CellRec, impl.CellRef, impl.CellEnv}
	if !slices.Equal(vals, []int{1, 2, 3, 4, 5, 6, 7}) || !slices.Equal(cells, []int{1, 2, 3, 4, 5, 6}) {
		t.Errorf("the kinds are %v and %v", vals, cells)
	}
	if impl.MaxCells != 4000 || impl.MaxShow != 12 {
		t.Errorf("the limits are %d and %d", impl.MaxCells, impl.MaxShow)
	}
}

// TestHeapOkRandom compares HeapOk with the rules for random heaps, of which a
// few fields are changed.
func TestHeapOkRandom(t *testing.T) {
	counts := map[bool]int{}
	for seed := range uint32(20000) {
		g := &lot{seed: seed}
		h, roots := g.heap(g.next(8), g.next(4))
		for range g.next(3) {
			g.changeHeap(h, roots)
		}
		counts[checkHeap(t, h, roots, g.next(14)-1)]++
	}
	if counts[true] < 5000 || counts[false] < 5000 {
		t.Errorf("heaps were valid and not valid so many times: %v", counts)
	}
}

// val is a value of any kind in a heap of this size, often a cell.
func (g *lot) val(size int) impl.Val {
	if size > 0 && g.next(5) > 1 {
		return cellAt(g.next(size))
	}
	list := valsOf(`0 -1 7 () Leaf x [] <say> <print> - "" "a" "A" "\n\"\\\xff"`)
	list = append(list, numberVal(impl.MinInt), numberVal(impl.MaxInt), impl.Val{Kind: impl.VStr, S: "B S N"})
	return list[g.next(len(list))]
}

// heap is a valid heap with roots.
func (g *lot) heap(size int, roots int) ([]impl.Cell, []impl.Val) {
	h, list := []impl.Cell{}, []impl.Val{}
	for range size {
		c := impl.Cell{Kind: 1 + g.next(6), A: g.val(size)}
		for _, field := range cellFields[c.Kind] {
			switch field {
			case 'S':
				c.S = g.of("Node", "A", "::", "B_1", "x y")
			case 'N':
				c.N = g.number()
			case 'B':
				c.B = g.val(size)
			}
		}
		h = append(h, c)
	}
	for range roots {
		list = append(list, g.val(size))
	}
	return h, list
}

// changeHeap changes a field of a cell, of a value in it or of a root.
func (g *lot) changeHeap(h []impl.Cell, roots []impl.Val) {
	spots := []*impl.Val{}
	for i := range roots {
		spots = append(spots, &roots[i])
	}
	if len(h) > 0 {
		c := &h[g.next(len(h))]
		spots = append(spots, &c.A, &c.B)
		switch g.next(8) {
		case 0:
			c.Kind = g.next(9) - 1
		case 1:
			c.N = g.someInt()
		case 2:
			c.S = g.someText()
		}
	}
	if len(spots) == 0 {
		return
	}
	v := spots[g.next(len(spots))]
	switch g.next(5) {
	case 0:
		v.Kind = g.next(10) - 1
	case 1:
		v.N = []int{0, 1, len(h) - 1, len(h), -1, impl.MaxInt, impl.MaxInt + 1, impl.MinInt, impl.MinInt - 1, math.MaxInt, math.MinInt}[g.next(11)]
	case 2:
		v.S = g.someText()
	case 3:
		*v = impl.Val{}
	}
}
