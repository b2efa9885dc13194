package tests

import (
	"fmt"
	"slices"
	"strconv"
	"strings"
	"testing"

	"loop.example/g00395/impl"
)

// valFields are the fields that the kinds of values use, cellFields those of
// the kinds of cells, and cellForms how cells are shown.
var (
	valFields  = map[int]string{impl.VInt: "N", impl.VStr: "S", impl.VUnit: "", impl.VTag: "S", impl.VGiven: "S", impl.VCell: "N", impl.VNone: ""}
	cellFields = map[int]string{impl.CellCon: "SA", impl.CellPair: "AB", impl.CellFun: "NA", impl.CellRec: "NA", impl.CellRef: "A", impl.CellEnv: "AB"}
	cellForms  = map[int]string{impl.CellCon: "(S A)", impl.CellPair: "(A, B)", impl.CellFun: "<fun N A>", impl.CellRec: "<rec N A>", impl.CellRef: "{A}", impl.CellEnv: "[A B]"}
	cellWords  = map[string]int{"con": impl.CellCon, "pair": impl.CellPair, "fun": impl.CellFun, "rec": impl.CellRec, "ref": impl.CellRef, "env": impl.CellEnv}
)

// valOf is the value of a word: @3 is a cell, 3 a number, "a" a string, () is
// unit, <say> a predefined function, - none, and any other word a tag.
func valOf(word string) impl.Val {
	n, err := strconv.Atoi(word)
	s, quoted := impl.Unquote(word)
	place, found := strings.CutPrefix(word, "@")
	switch {
	case found:
		n, _ = strconv.Atoi(place)
		return cellAt(n)
	case err == nil:
		return numberVal(n)
	case quoted:
		return impl.Val{Kind: impl.VStr, S: s}
	case word == "()":
		return impl.Val{Kind: impl.VUnit}
	case word == "-":
		return impl.Val{Kind: impl.VNone}
	case word[0] == '<':
		return impl.Val{Kind: impl.VGiven, S: strings.Trim(word, "<>")}
	}
	return impl.Val{Kind: impl.VTag, S: word}
}

func cellAt(n int) impl.Val { return impl.Val{Kind: impl.VCell, N: n} }

func numberVal(n int) impl.Val { return impl.Val{Kind: impl.VInt, N: n} }

// valsOf are the values of words.
func valsOf(text string) []impl.Val {
	list := []impl.Val{}
	for _, word := range strings.Fields(text) {
		list = append(list, valOf(word))
	}
	return list
}

// heapOf is a heap of cells with their fields, like con Node @1; env 1 -.
func heapOf(text string) []impl.Cell {
	h := []impl.Cell{}
	for _, part := range strings.Split(text, ";") {
		words := strings.Fields(part)
		if len(words) == 0 {
			continue
		}
		c := impl.Cell{Kind: cellWords[words[0]]}
		for i, field := range cellFields[c.Kind] {
			switch word := words[i+1]; field {
			case 'S':
				c.S = word
			case 'N':
				c.N, _ = strconv.Atoi(word)
			case 'A':
				c.A = valOf(word)
			case 'B':
				c.B = valOf(word)
			}
		}
		h = append(h, c)
	}
	return h
}

// heapText shows all fields.
func heapText(h []impl.Cell, roots []impl.Val) string {
	return brief(fmt.Sprintf("%+v with %+v", h, roots))
}

func sameHeap(a []impl.Cell, b []impl.Cell) bool { return slices.Equal(a, b) }

func valIsRight(v impl.Val, size int) bool {
	fields, known := valFields[v.Kind]
	if !known || v.N != 0 && fields != "N" || v.S != "" && fields != "S" {
		return false
	}
	switch v.Kind {
	case impl.VInt:
		return v.N >= impl.MinInt && v.N <= impl.MaxInt
	case impl.VCell:
		return v.N >= 0 && v.N < size
	case impl.VTag, impl.VGiven:
		return v.S != ""
	}
	return true
}

func cellIsRight(c impl.Cell, size int) bool {
	fields, known := cellFields[c.Kind]
	uses := func(field string) bool { return strings.Contains(fields, field) }
	if !known || c.N != 0 && !uses("N") || c.S != "" && !uses("S") || !valIsRight(c.A, size) {
		return false
	}
	if uses("B") {
		return valIsRight(c.B, size)
	}
	return c.B == impl.Val{}
}

// heapIsRight is HeapOk.
func heapIsRight(h []impl.Cell, roots []impl.Val) bool {
	for _, c := range h {
		if !cellIsRight(c, len(h)) {
			return false
		}
	}
	for _, v := range roots {
		if !valIsRight(v, len(h)) {
			return false
		}
	}
	return len(h) <= impl.MaxCells
}

// secondReach is Reach and Sweep: it looks at all cells until none is new.
func secondReach(h []impl.Cell, roots []impl.Val) (reached []int, swept []int) {
	seen := make([]bool, len(h))
	news := false
	see := func(v impl.Val) {
		if v.Kind == impl.VCell && !seen[v.N] {
			seen[v.N], news = true, true
		}
	}
	for _, v := range roots {
		see(v)
	}
	for news {
		news = false
		for i, c := range h {
			if seen[i] {
				see(c.A)
				see(c.B)
			}
		}
	}
	for i, is := range seen {
		if is {
			reached = append(reached, i)
		} else {
			swept = append(swept, i)
		}
	}
	return reached, swept
}

// secondCopy is Copy: it first lists the old indices in the order of the new
// heap.
func secondCopy(h []impl.Cell, roots []impl.Val) ([]impl.Cell, []impl.Val) {
	order := []int{}
	list := func(v impl.Val) {
		if v.Kind == impl.VCell && !slices.Contains(order, v.N) {
			order = append(order, v.N)
		}
	}
	for _, v := range roots {
		list(v)
	}
	for i := 0; i < len(order); i++ {
		list(h[order[i]].A)
		list(h[order[i]].B)
	}
	there := func(v impl.Val) impl.Val {
		if v.Kind == impl.VCell {
			v.N = slices.Index(order, v.N)
		}
		return v
	}
	cells, vals := []impl.Cell{}, []impl.Val{}
	for _, old := range order {
		c := h[old]
		c.A, c.B = there(c.A), there(c.B)
		cells = append(cells, c)
	}
	for _, v := range roots {
		vals = append(vals, there(v))
	}
	return cells, vals
}

// secondShow is Show of a valid value.
func secondShow(h []impl.Cell, v impl.Val, deep int) string {
	switch v.Kind {
	case impl.VInt:
		return fmt.Sprint(v.N)
	case impl.VStr:
		return impl.Quote(v.S)
	case impl.VCell:
		if deep <= 0 {
			return "?"
		}
		c := h[v.N]
		parts := []string{"S", c.S, "N", impl.NumText(c.N), "A", secondShow(h, c.A, deep-1)}
		if strings.Contains(cellFields[c.Kind], "B") {
			parts = append(parts, "B", secondShow(h, c.B, deep-1))
		}
		return strings.NewReplacer(parts...).Replace(cellForms[c.Kind])
	}
	return map[int]string{impl.VUnit: "()", impl.VTag: v.S, impl.VGiven: "<" + v.S + ">", impl.VNone: "-"}[v.Kind]
}

// checkShown compares Show with secondShow for one value, at every depth up to
// one that is too great.
func checkShown(t *testing.T, h []impl.Cell, v impl.Val, depths ...int) {
	t.Helper()
	for _, deep := range depths {
		want := ""
		if deep <= impl.MaxShow && heapIsRight(h, []impl.Val{v}) {
			want = secondShow(h, v, deep)
		}
		if got := impl.Show(h, v, deep); got != want {
			t.Fatalf("Show is %q, not %q, at the depth %d for %+v in %s", brief(got), brief(want), deep, v, heapText(h, nil))
		}
	}
}

// checkHeap compares all functions with the second ones, and checks what they
// promise. It reports whether the heap is valid.
func checkHeap(t *testing.T, h []impl.Cell, roots []impl.Val, depths ...int) bool {
	t.Helper()
	want := heapIsRight(h, roots)
	if got := impl.HeapOk(h, roots); got != want {
		t.Fatalf("HeapOk is %v, not %v, for %s", got, want, heapText(h, roots))
	}
	reached, swept := impl.Reach(h, roots), impl.Sweep(h, roots)
	cells, vals := impl.Copy(h, roots)
	if !want {
		if reached != nil || swept != nil || cells != nil || vals != nil {
			t.Fatalf("the results are %v, %v, %s for %s, which is not valid", reached, swept, heapText(cells, vals), heapText(h, roots))
		}
	} else {
		checkReached(t, h, roots, reached, swept)
		checkCopied(t, h, roots, cells, vals, len(reached))
	}
	for i, v := range roots {
		checkShown(t, h, v, depths...)
		for _, deep := range depths {
			if want && impl.Show(cells, vals[i], deep) != impl.Show(h, v, deep) {
				t.Fatalf("%+v is shown as %q after copying %s", v, impl.Show(cells, vals[i], deep), heapText(h, roots))
			}
		}
	}
	return want
}

func checkReached(t *testing.T, h []impl.Cell, roots []impl.Val, reached []int, swept []int) {
	t.Helper()
	wantReached, wantSwept := secondReach(h, roots)
	if !slices.Equal(reached, wantReached) || !slices.Equal(swept, wantSwept) {
		t.Fatalf("Reach is %v, not %v, and Sweep %v, not %v, for %s", reached, wantReached, swept, wantSwept, heapText(h, roots))
	}
	all := slices.Concat(reached, swept)
	slices.Sort(all)
	for i, at := range all {
		if at != i || len(all) != len(h) {
			t.Fatalf("Reach is %v, Sweep is %v for %d cells", reached, swept, len(h))
		}
	}
}

// checkCopied: the copied heap is valid, has all cells that are reachable and no
// other, and is copied to itself.
func checkCopied(t *testing.T, h []impl.Cell, roots []impl.Val, cells []impl.Cell, vals []impl.Val, count int) {
	t.Helper()
	wantCells, wantVals := secondCopy(h, roots)
	if !sameHeap(cells, wantCells) || !slices.Equal(vals, wantVals) {
		t.Fatalf("Copy is %s, not %s, for %s", heapText(cells, vals), heapText(wantCells, wantVals), heapText(h, roots))
	}
	again, same := impl.Copy(cells, vals)
	if len(cells) != count || !impl.HeapOk(cells, vals) || !sameHeap(again, cells) || !slices.Equal(same, vals) {
		t.Fatalf("there are %d cells, not %d, or they are copied again to %s, for %s", len(cells), count, heapText(again, same), heapText(h, roots))
	}
	if len(impl.Reach(cells, vals)) != count || len(impl.Sweep(cells, vals)) != 0 {
		t.Fatalf("not all of the copied cells are reachable: %s", heapText(cells, vals))
	}
}
