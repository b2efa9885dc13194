package tests

import (
	"slices"
	"strings"
	"testing"

	"loop.example/g00395/impl"
)

// chainPat is a pattern with n constructors, each around the next one.
func chainPat(name string, n int, last impl.PNode) impl.Pat {
	nodes := []impl.PNode{}
	for range n {
		nodes = append(nodes, pnode(impl.PCon, 0, name, len(nodes)+1))
	}
	return impl.Pat{Nodes: append(nodes, last)}
}

// columns is a pattern of nested pairs with a component for every byte: true
// for t, false for f, a wildcard for _.
func columns(cells string) impl.Pat {
	nodes := []impl.PNode{}
	for i, c := range cells {
		at := len(nodes)
		if i < len(cells)-1 {
			nodes = append(nodes, pnode(impl.PPair, 0, "", at+1, at+2))
		}
		switch c {
		case 't':
			nodes = append(nodes, pnode(impl.PCon, 0, "true"))
		case 'f':
			nodes = append(nodes, pnode(impl.PCon, 0, "false"))
		default:
			nodes = append(nodes, pnode(impl.PWild, 0, ""))
		}
	}
	return impl.Pat{Nodes: nodes}
}

// inColumns is columns with these cells behind some wildcards, before others.
func inColumns(before int, cells string, width int) impl.Pat {
	return columns(strings.Repeat("_", before) + cells + strings.Repeat("_", width-before-len(cells)))
}

// allCells are all lists of so many t and f.
func allCells(n int) []string {
	if n == 0 {
		return []string{""}
	}
	list := []string{}
	for _, rest := range allCells(n - 1) {
		list = append(list, "t"+rest, "f"+rest)
	}
	return list
}

// checkLarge checks patterns of which there are too many, or which are too
// large, for secondCover.
func checkLarge(t *testing.T, what string, l []impl.Pat, complete bool, useless ...int) {
	t.Helper()
	p := parsed(t, coverTypes+"()")
	got, ok := impl.Complete(p, l)
	gotUseless, also := impl.Useless(p, l)
	if !ok || !also || got != complete || !slices.Equal(gotUseless, useless) {
		t.Errorf("%s: Complete is %v and %v, Useless is %v and %v, not %v", what, got, ok, gotUseless, also, useless)
	}
}

// from are the numbers from a number on.
func from(first int, count int) []int {
	list := []int{}
	for i := range count {
		list = append(list, first+i)
	}
	return list
}

func TestCoverMaxNodes(t *testing.T) {
	wild, zero := pnode(impl.PWild, 0, ""), pnode(impl.PCon, 0, "Z")
	top := impl.MaxNodes - 1
	checkLarge(t, "a box in a box", []impl.Pat{chainPat("Box", top, wild), chainPat("Box", top, wild), chainPat("Box", 1, wild)}, true, 1, 2)
	checkLarge(t, "a large number", []impl.Pat{chainPat("Next", top, zero), chainPat("Next", top, wild)}, false)
	l := []impl.Pat{}
	for n := range 150 {
		l = append(l, chainPat("Next", n, zero))
	}
	checkLarge(t, "small numbers", l, false)
	checkLarge(t, "all numbers", append(slices.Clone(l), chainPat("Next", 150, wild)), true)
	checkLarge(t, "all numbers but one", append(slices.Delete(slices.Clone(l), 77, 78), chainPat("Next", 150, wild)), false)
	checkLarge(t, "all numbers in another order", append([]impl.Pat{chainPat("Next", 100, wild)}, l...), true, from(101, 50)...)
	lists := []string{}
	for n := range 60 {
		lists = append(lists, strings.Repeat("_ :: ", n)+"[]")
	}
	checkLarge(t, "all lists", patsOf(t, strings.Join(lists, "|")+"|"+strings.Repeat("_ :: ", 60)+"_"), true)
	checkLarge(t, "all lists but one", patsOf(t, strings.Join(lists[1:], "|")+"|"+strings.Repeat("_ :: ", 60)+"_"), false)
	p := parsed(t, coverTypes+"()")
	for _, bad := range []impl.Pat{chainPat("Box", impl.MaxNodes, wild), chainPat("Next", impl.MaxNodes, wild), chainPat("S", impl.MaxItems, wild), widePat(100, wild)} {
		l := []impl.Pat{{Nodes: []impl.PNode{wild}}, bad}
		complete, ok := impl.Complete(p, l)
		useless, also := impl.Useless(p, l)
		if complete || ok || len(useless) > 0 || also {
			t.Errorf("a pattern is too large: Complete is %v and %v, Useless is %v and %v", complete, ok, useless, also)
		}
	}
	checkLarge(t, "a type of MaxItems items", []impl.Pat{chainPat("S", impl.MaxItems-2, zero), chainPat("S", 1, wild), chainPat("S", 2, wild), {Nodes: []impl.PNode{wild}}}, true, 2)
	checkLarge(t, "many pairs", []impl.Pat{widePat(99, wild), widePat(98, wild)}, true, 1)
}

func TestCoverManyPatterns(t *testing.T) {
	wild := impl.Pat{Nodes: []impl.PNode{pnode(impl.PWild, 0, "")}}
	checkLarge(t, "wildcards", slices.Repeat([]impl.Pat{wild}, 10005), true, from(1, 10004)...)
	l := []impl.Pat{}
	for n := range 3000 {
		l = append(l, impl.Pat{Nodes: []impl.PNode{pnode(impl.PInt, n-1500, "")}})
	}
	checkLarge(t, "numbers", l, false)
	checkLarge(t, "numbers and a wildcard", append(slices.Clone(l), wild), true)
	checkLarge(t, "a wildcard and numbers", append([]impl.Pat{wild}, l...), true, from(1, 3000)...)
	checkLarge(t, "numbers twice", append(slices.Clone(l), l...), false, from(3000, 3000)...)
	l = nil
	for _, cells := range allCells(10) {
		l = append(l, columns(cells))
	}
	checkLarge(t, "all values", l, true)
	checkLarge(t, "all values and one more", append(slices.Clone(l), columns("tt______ff")), true, 1024)
	checkLarge(t, "all values but one", append(slices.Delete(slices.Clone(l), 777, 778), columns("tftftftftf")), false, 1023)
}

// TestCoverManyColumns has many components, so there are far too many values to
// look at all of them.
func TestCoverManyColumns(t *testing.T) {
	l := []impl.Pat{}
	for i := range 100 {
		l = append(l, inColumns(i, "t", 100))
	}
	none := columns(strings.Repeat("f", 100))
	checkLarge(t, "one is true", l, false)
	checkLarge(t, "one or none is true", append(slices.Clone(l), none), true)
	checkLarge(t, "one or none is true, in another order", append([]impl.Pat{none}, l...), true)
	checkLarge(t, "one but not the last is true", append(slices.Clone(l[:99]), none, none), false, 100)
	// Two that follow each other differ, or all are the same.
	l = nil
	for i := range 99 {
		l = append(l, inColumns(i, "tf", 100), inColumns(i, "ft", 100))
	}
	checkLarge(t, "two differ", l, false)
	checkLarge(t, "two differ or all are true", append(slices.Clone(l), columns(strings.Repeat("t", 100))), false)
	checkLarge(t, "two differ or all are the same", append(slices.Clone(l), inColumns(50, "t", 100), inColumns(51, "f", 100), inColumns(0, "t", 100)), true, 200)
}

// TestCoverSeparateColumns has components that have nothing to do with each
// other: whether the last ones are complete must not be asked for all the
// combinations of the others.
func TestCoverSeparateColumns(t *testing.T) {
	l := []impl.Pat{}
	for i := range 30 {
		l = append(l, inColumns(3*i, "ttt", 94), inColumns(3*i, "fff", 94))
	}
	checkLarge(t, "not complete", l, false)
	for _, cells := range allCells(4) {
		l = append(l, inColumns(90, cells, 94))
	}
	checkLarge(t, "the last ones complete", l, true)
	checkLarge(t, "the last ones complete, and more", append(slices.Clone(l), inColumns(1, "tft", 94), inColumns(2, "tft", 94)), true, 76, 77)
	for i := 60; i < len(l); i += 5 {
		checkLarge(t, "the last ones complete but one", slices.Delete(slices.Clone(l), i, i+1), false)
	}
	slices.Reverse(l)
	checkLarge(t, "the first ones complete", l, true, from(16, 60)...)
}

// TestCoverRandomColumns has patterns that match many values in common, few
// enough to compare with secondCover.
func TestCoverRandomColumns(t *testing.T) {
	p := parsed(t, coverTypes+"()")
	counts := map[bool]int{}
	for seed := range uint32(300) {
		g := &lot{seed: seed}
		width := 2 + g.next(8)
		l := []impl.Pat{}
		for range width + g.next(5*width) {
			cells := []byte(strings.Repeat("_", width))
			for range 1 + g.next(4) {
				cells[g.next(width)] = "tf"[g.next(2)]
			}
			l = append(l, columns(string(cells)))
		}
		complete, useless, ok := covered(t, p, l)
		if !ok || len(useless) == len(l) {
			t.Fatalf("there are only useless patterns in %s", patTexts(l))
		}
		counts[complete]++
	}
	if counts[true] < 60 || counts[false] < 60 {
		t.Errorf("the counts are %v", counts)
	}
}

// TestCoverManyConstructors has as many types and constructors as a program may
// have.
func TestCoverManyConstructors(t *testing.T) {
	text := ""
	for i := range impl.MaxTypes {
		cons := []string{}
		for j := range impl.MaxCons {
			cons = append(cons, "C"+impl.NumText(i)+impl.NumText(j)+[]string{"", " of t" + impl.NumText((i+1)%impl.MaxTypes)}[j%2])
		}
		text += "type t" + impl.NumText(i) + " = " + strings.Join(cons, " | ") + "; "
	}
	p := parsed(t, text+"()")
	pats := []string{}
	for i := range impl.MaxTypes {
		around := ""
		for k := range i {
			around += "C" + impl.NumText(k) + "1 "
		}
		for _, j := range []int{0, 2, 3, 4, 5, 6, 7} {
			pats = append(pats, around+"C"+impl.NumText(i)+impl.NumText(j)+[]string{"", " _"}[j%2])
		}
		complete, useless, ok := covered(t, p, patsOf(t, strings.Join(pats, "|")))
		if complete || !ok || len(useless) > 0 {
			t.Errorf("Complete is %v and %v, Useless is %v with %d types", complete, ok, useless, i+1)
		}
		all := patsOf(t, strings.Join(append(slices.Clone(pats), around+"C"+impl.NumText(i)+"1 _", around+"C"+impl.NumText(i)+"1 _"), "|"))
		complete, useless, ok = covered(t, p, all)
		if !complete || !ok || !slices.Equal(useless, []int{len(all) - 1}) {
			t.Errorf("Complete is %v and %v, Useless is %v with %d types", complete, ok, useless, i+1)
		}
	}
}
