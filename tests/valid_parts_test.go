package tests

import (
	"math"
	"slices"
	"strings"
	"testing"

	"loop.example/g00395/impl"
)

// badWords are neither names nor names of constructors.
var badWords = []string{
	"", " ", "1", "_", "_a", "a b", "a ", " a", "a'", "'a", "a\n", "a\x00", "A b", "A'", "A\n", "\xff", "é", "aé", "Aé",
	"abcdefghijklm", "Abcdefghijklm", "()", "->", "*", "+", ":=", ":",
}

// badNames are no names, but some of them are names of constructors.
func badNames() []string {
	return slices.Concat(badWords, strings.Fields(keywords), []string{"A", "Abc", "::", "[]"})
}

// badCons are no names of constructors with one child, but some of them are
// names of constructors without one.
func badCons() []string {
	return slices.Concat(badWords, strings.Fields(keywords), []string{"a", "abc", "[]"})
}

// farNumbers are indices and counts that nothing has.
var farNumbers = []int{-1, -2, math.MinInt, math.MinInt + 1, -1 << 32, 1 << 20, 1 << 32, math.MaxInt - 1, math.MaxInt}

// withTy is a valid program if the type is one with variables less than
// params.
func withTy(params int, ty impl.Ty) impl.Program {
	c := impl.Con{Name: "A", Has: true, Arg: ty}
	return impl.Program{Types: []impl.Type{{Name: "t", Params: params, Cons: []impl.Con{c}}}, Nodes: unitNodes()}
}

// checkNoProgram checks that a program is not valid. good is one from which it
// differs in one respect.
func checkNoProgram(t *testing.T, what string, bad impl.Program, good impl.Program) {
	t.Helper()
	if !impl.ProgramOk(good) || !impl.SameProgram(good, good) {
		t.Fatalf("%s: the program is not valid from the beginning", what)
	}
	if impl.ProgramOk(bad) {
		t.Errorf("%s: ProgramOk is true", what)
	}
	if got := impl.PrintProgram(bad); got != "" {
		t.Errorf("%s: PrintProgram is %s", what, brief(got))
	}
	if impl.SameProgram(bad, bad) || impl.SameProgram(bad, good) || impl.SameProgram(good, bad) {
		t.Errorf("%s: SameProgram is true", what)
	}
}

// checkNoTy checks that a type is not valid.
func checkNoTy(t *testing.T, what string, items ...impl.TyItem) {
	t.Helper()
	ty := tyOf(items...)
	if impl.TyOk(ty) {
		t.Errorf("%s: TyOk is true", what)
	}
	if got := impl.PrintTy(ty); got != "" {
		t.Errorf("%s: PrintTy is %s", what, brief(got))
	}
	checkNoProgram(t, what, withTy(2, ty), withTy(2, tyOf(tyVar(1))))
}

func TestTyItems(t *testing.T) {
	checkPrintTy(t, "'z9999", tyVar(9999))
	for _, n := range append([]int{10000}, farNumbers...) {
		checkNoTy(t, "a variable out of its range", tyVar(n))
		checkNoTy(t, "a second variable out of its range", tyCon("*", 2), tyVar(0), tyVar(n))
	}
	checkNoTy(t, "a variable with an arity", impl.TyItem{Arity: 1}, tyVar(0))
	checkNoTy(t, "a variable with an arity", impl.TyItem{Arity: 2}, tyVar(0), tyVar(1))
	checkNoTy(t, "a variable with an arity below 0", impl.TyItem{Arity: -1})
	for _, name := range []string{"int", "t", "list"} {
		for _, n := range []int{1, -1, 9999, math.MinInt} {
			checkNoTy(t, "a name with a variable", impl.TyItem{Name: name, Var: n})
			checkNoTy(t, "a name with a variable", impl.TyItem{Name: name, Var: n, Arity: 1}, tyVar(0))
		}
	}
	for _, n := range []int{1, -1} {
		checkNoTy(t, "ref with a variable", impl.TyItem{Name: "ref", Arity: 1, Var: n}, tyVar(0))
		checkNoTy(t, "-> with a variable", impl.TyItem{Name: "->", Arity: 2, Var: n}, tyVar(0), tyVar(0))
		checkNoTy(t, "* with a variable", impl.TyItem{Name: "*", Arity: 2, Var: n}, tyVar(0), tyVar(0))
	}
	for _, name := range badNames() {
		if name == "" || name == "ref" || name == "->" || name == "*" {
			continue
		}
		checkNoTy(t, "the name "+name, tyCon(name, 0))
		checkNoTy(t, "the name "+name, tyCon(name, 1), tyVar(0))
		checkNoTy(t, "the name "+name, tyCon(name, 2), tyVar(0), tyVar(1))
		checkNoTy(t, "an inner name "+name, tyCon("list", 1), tyCon(name, 0))
	}
}

// TestTyArities tests every arity with as many types as it requires, one less
// and one more.
func TestTyArities(t *testing.T) {
	right := map[string][]int{"int": {0, 1, 2}, "t": {0, 1, 2}, "ref": {1}, "->": {2}, "*": {2}}
	for name, arities := range right {
		for arity := range 5 {
			for count := range 6 {
				items := []impl.TyItem{tyCon(name, arity)}
				for range count {
					items = append(items, tyCon("int", 0))
				}
				if slices.Contains(arities, arity) && count == arity {
					if ty := tyOf(items...); !impl.TyOk(ty) || impl.PrintTy(ty) == "" || !impl.ProgramOk(withTy(0, ty)) {
						t.Errorf("%s is not valid with %d types", name, count)
					}
				} else {
					checkNoTy(t, name+" with a wrong number of types", items...)
				}
			}
		}
		for _, n := range farNumbers {
			checkNoTy(t, name+" with a far arity", tyCon(name, n))
			checkNoTy(t, name+" with a far arity", tyCon(name, n), tyVar(0), tyVar(1))
			checkNoTy(t, name+" with a far arity", tyCon("list", 1), tyCon(name, n))
		}
	}
	checkNoTy(t, "no items")
	checkNoTy(t, "two types", tyVar(0), tyVar(0))
	checkNoTy(t, "a type behind a pair", tyCon("*", 2), tyVar(0), tyVar(1), tyCon("int", 0))
	checkNoTy(t, "a missing inner type", tyCon("*", 2), tyCon("list", 1), tyVar(0))
	checkNoTy(t, "a missing last type", tyCon("*", 2), tyVar(0), tyCon("list", 1))
	checkNoTy(t, "arities that are even in sum", tyCon("int", 0), tyCon("*", 2), tyVar(0))
	checkNoTy(t, "arities that are even in sum", tyVar(0), tyCon("list", 1))
}

func TestTyMaxItems(t *testing.T) {
	if impl.MaxItems != 200 {
		t.Errorf("MaxItems is %d", impl.MaxItems)
	}
	lists := func(n int) []impl.TyItem { return append(slices.Repeat([]impl.TyItem{tyCon("list", 1)}, n), tyVar(0)) }
	checkPrintTy(t, layer{"(", ") list"}.around(impl.MaxItems-1, "'a"), lists(impl.MaxItems-1)...)
	checkNoTy(t, "an item too many", lists(impl.MaxItems)...)
	checkNoTy(t, "a million items too many", lists(1000000)...)
	checkNoTy(t, "a million types", slices.Repeat([]impl.TyItem{tyCon("int", 0)}, 1000000)...)
	pairs := func(n int) []impl.TyItem {
		return append(slices.Repeat([]impl.TyItem{tyCon("*", 2)}, n), slices.Repeat([]impl.TyItem{tyVar(1)}, n+1)...)
	}
	checkPrintTy(t, strings.Repeat("(", 99)+"'b"+strings.Repeat(" * 'b)", 99), pairs(99)...)
	checkPrintTy(t, "("+strings.Repeat("(", 99)+"'b"+strings.Repeat(" * 'b)", 99)+") ref", append([]impl.TyItem{tyCon("ref", 1)}, pairs(99)...)...)
	checkNoTy(t, "an item too many", pairs(100)...)
}

// TestParsedTyTooLarge: Parse does not count the items.
func TestParsedTyTooLarge(t *testing.T) {
	p := parsed(t, "type t = A of int"+strings.Repeat(" list", impl.MaxItems-1)+"; ()")
	if !impl.ProgramOk(p) {
		t.Error("ProgramOk is false with MaxItems items")
	}
	q := parsed(t, "type t = A of int"+strings.Repeat(" list", impl.MaxItems)+"; ()")
	checkNoProgram(t, "an item too many", q, p)
}

// patProgram is a valid program if the pattern is valid.
func patProgram(q impl.Pat) impl.Program {
	return impl.Program{Nodes: []impl.Node{{Kind: impl.EMatch, Kids: []int{1, 2}, Pats: []impl.Pat{q}}, {Kind: impl.EUnit}, {Kind: impl.EUnit}}}
}

func checkGoodPat(t *testing.T, what string, nodes ...impl.PNode) {
	t.Helper()
	q := impl.Pat{Nodes: nodes}
	if !impl.PatOk(q) || impl.PrintPat(q) == "" || !impl.ProgramOk(patProgram(q)) {
		t.Errorf("%s: the pattern is not valid", what)
		return
	}
	if text := impl.PrintPat(q); len(text) < impl.MaxText/2 && strings.Count(text, "(") <= impl.MaxDepth {
		checkPrinted(t, patProgram(q), "(match () with "+text+" -> () end)")
	}
}

func checkNoPat(t *testing.T, what string, nodes ...impl.PNode) {
	t.Helper()
	q := impl.Pat{Nodes: nodes}
	if impl.PatOk(q) {
		t.Errorf("%s: PatOk is true", what)
	}
	if got := impl.PrintPat(q); got != "" {
		t.Errorf("%s: PrintPat is %s", what, brief(got))
	}
	wild := impl.Pat{Nodes: []impl.PNode{{Kind: impl.PWild}}}
	checkNoProgram(t, what, patProgram(q), patProgram(wild))
}

// pnode is a node of a pattern.
func pnode(kind int, n int, s string, kids ...int) impl.PNode {
	return impl.PNode{Kind: kind, N: n, S: s, Kids: kids}
}

func TestPatKinds(t *testing.T) {
	checkNoPat(t, "no nodes")
	for _, kind := range append([]int{0, 7, 8, 10, 13, 19, 20}, farNumbers...) {
		checkNoPat(t, "an unknown kind", pnode(kind, 0, ""))
		checkNoPat(t, "an unknown kind with a name", pnode(kind, 0, "x"))
		checkNoPat(t, "an unknown kind of a child", pnode(impl.PCon, 0, "A", 1), pnode(kind, 0, ""))
	}
}

// TestPatCounts gives every kind of node every number of children.
func TestPatCounts(t *testing.T) {
	for _, k := range []struct {
		kind   int
		s      string
		counts []int
	}{
		{impl.PWild, "", []int{0}}, {impl.PVar, "x", []int{0}}, {impl.PInt, "", []int{0}}, {impl.PUnit, "", []int{0}}, {impl.PPair, "", []int{2}},
		{impl.PCon, "A", []int{0, 1}}, {impl.PCon, "true", []int{0}}, {impl.PCon, "false", []int{0}}, {impl.PCon, "[]", []int{0}}, {impl.PCon, "::", []int{}},
	} {
		for count := range 5 {
			nodes := []impl.PNode{pnode(k.kind, 0, k.s)}
			for range count {
				nodes[0].Kids = append(nodes[0].Kids, len(nodes))
				nodes = append(nodes, pnode(impl.PWild, 0, ""))
			}
			if slices.Contains(k.counts, count) {
				checkGoodPat(t, patKinds[k.kind]+" "+k.s, nodes...)
			} else {
				checkNoPat(t, patKinds[k.kind]+" "+k.s+" with a wrong number of children", nodes...)
			}
		}
	}
	pair := []impl.PNode{pnode(impl.PPair, 0, "", 2, 3), pnode(impl.PWild, 0, ""), pnode(impl.PUnit, 0, "")}
	checkGoodPat(t, ":: with a pair", append([]impl.PNode{pnode(impl.PCon, 0, "::", 1)}, pair...)...)
	for _, other := range []impl.PNode{pnode(impl.PWild, 0, ""), pnode(impl.PVar, 0, "x"), pnode(impl.PInt, 1, ""), pnode(impl.PUnit, 0, ""), pnode(impl.PCon, 0, "A"), pnode(impl.PCon, 0, "[]")} {
		checkNoPat(t, ":: without a pair", pnode(impl.PCon, 0, "::", 1), other)
	}
	pair = []impl.PNode{pnode(impl.PPair, 0, "", 3, 4), pnode(impl.PWild, 0, ""), pnode(impl.PUnit, 0, "")}
	checkGoodPat(t, "A with a constructor with a pair", append([]impl.PNode{pnode(impl.PCon, 0, "A", 1), pnode(impl.PCon, 0, "B", 2)}, pair...)...)
	checkNoPat(t, ":: with a constructor with a pair", append([]impl.PNode{pnode(impl.PCon, 0, "::", 1), pnode(impl.PCon, 0, "B", 2)}, pair...)...)
}

func TestPatFields(t *testing.T) {
	for _, n := range append([]int{1}, farNumbers...) {
		checkNoPat(t, "a PWild with a number", pnode(impl.PWild, n, ""))
		checkNoPat(t, "a PVar with a number", pnode(impl.PVar, n, "x"))
		checkNoPat(t, "a PUnit with a number", pnode(impl.PUnit, n, ""))
		checkNoPat(t, "a PCon with a number", pnode(impl.PCon, n, "A"))
		checkNoPat(t, "a PCon with a child and a number", pnode(impl.PCon, n, "A", 1), pnode(impl.PWild, 0, ""))
		checkNoPat(t, "a :: with a number", pnode(impl.PCon, n, "::", 1), pnode(impl.PPair, 0, "", 2, 3), pnode(impl.PWild, 0, ""), pnode(impl.PWild, 0, ""))
		checkNoPat(t, "a PPair with a number", pnode(impl.PPair, n, "", 1, 2), pnode(impl.PWild, 0, ""), pnode(impl.PWild, 0, ""))
		checkNoPat(t, "a number in a child", pnode(impl.PCon, 0, "A", 1), pnode(impl.PWild, n, ""))
	}
	for _, s := range []string{"x", "A", "true", "_", " ", "::", "\x00"} {
		checkNoPat(t, "a PWild with a name", pnode(impl.PWild, 0, s))
		checkNoPat(t, "a PUnit with a name", pnode(impl.PUnit, 0, s))
		checkNoPat(t, "a PInt with a name", pnode(impl.PInt, 1, s))
		checkNoPat(t, "a PPair with a name", pnode(impl.PPair, 0, s, 1, 2), pnode(impl.PWild, 0, ""), pnode(impl.PWild, 0, ""))
		checkNoPat(t, "the PPair of a :: with a name", pnode(impl.PCon, 0, "::", 1), pnode(impl.PPair, 0, s, 2, 3), pnode(impl.PWild, 0, ""), pnode(impl.PWild, 0, ""))
	}
	for _, n := range []int{0, 1, -1, impl.MaxInt - 1, impl.MaxInt, -impl.MaxInt, 1 - impl.MaxInt} {
		checkGoodPat(t, "a number", pnode(impl.PInt, n, ""))
		checkGoodPat(t, "a number in a pair", pnode(impl.PPair, 0, "", 1, 2), pnode(impl.PInt, n, ""), pnode(impl.PInt, -n, ""))
	}
	for _, n := range []int{impl.MaxInt + 1, impl.MinInt, impl.MinInt - 1, math.MaxInt, math.MinInt} {
		checkNoPat(t, "a number out of range", pnode(impl.PInt, n, ""))
		checkNoPat(t, "a number out of range in a pair", pnode(impl.PPair, 0, "", 1, 2), pnode(impl.PInt, 0, ""), pnode(impl.PInt, n, ""))
	}
}

func TestPatNames(t *testing.T) {
	wild := pnode(impl.PWild, 0, "")
	for _, s := range badNames() {
		checkNoPat(t, "the name "+s, pnode(impl.PVar, 0, s))
		checkNoPat(t, "the name "+s+" in a pair", pnode(impl.PPair, 0, "", 1, 2), wild, pnode(impl.PVar, 0, s))
	}
	for _, s := range badCons() {
		if s != "true" && s != "false" && s != "[]" {
			checkNoPat(t, "the constructor "+s, pnode(impl.PCon, 0, s))
		}
		checkNoPat(t, "the constructor "+s+" with a child", pnode(impl.PCon, 0, s, 1), wild)
	}
	checkNoPat(t, "the constructor :: alone", pnode(impl.PCon, 0, "::"))
	for _, s := range []string{"x", "a_B9", "abcdefghijkl", "lets", "print"} {
		checkGoodPat(t, "the name "+s, pnode(impl.PVar, 0, s))
	}
	for _, s := range []string{"A", "A_b9", "Abcdefghijkl", "True"} {
		checkGoodPat(t, "the constructor "+s, pnode(impl.PCon, 0, s))
		checkGoodPat(t, "the constructor "+s+" with a child", pnode(impl.PCon, 0, s, 1), wild)
	}
}

func TestPatNamesTwice(t *testing.T) {
	x, y, wild := pnode(impl.PVar, 0, "x"), pnode(impl.PVar, 0, "y"), pnode(impl.PWild, 0, "")
	pair := func(a, b int) impl.PNode { return pnode(impl.PPair, 0, "", a, b) }
	checkNoPat(t, "x twice in a pair", pair(1, 2), x, x)
	checkGoodPat(t, "x and y", pair(1, 2), x, y)
	checkGoodPat(t, "x and xx", pair(1, 2), x, pnode(impl.PVar, 0, "xx"))
	checkGoodPat(t, "wild twice", pair(1, 2), wild, wild)
	checkGoodPat(t, "a constructor twice", pair(1, 2), pnode(impl.PCon, 0, "A"), pnode(impl.PCon, 0, "A"))
	checkGoodPat(t, "a constructor in itself", pnode(impl.PCon, 0, "A", 1), pnode(impl.PCon, 0, "A", 2), x)
	checkNoPat(t, "x twice at the ends", pair(1, 4), pair(2, 3), x, y, pair(5, 6), wild, x)
	checkNoPat(t, "y twice in the middle", pair(1, 4), pair(2, 3), x, y, pair(5, 6), y, wild)
	checkNoPat(t, "x twice in a ::", pnode(impl.PCon, 0, "::", 1), pair(2, 3), x, x)
	checkNoPat(t, "x twice in constructors", pair(1, 3), pnode(impl.PCon, 0, "A", 2), x, pnode(impl.PCon, 0, "B", 4), x)
	// A name may occur once in each of several patterns.
	checkPrint(t, "match 0 with x -> 1 | (x, y) -> 2 | y :: x -> x end", "(match 0 with x -> 1 | (x, y) -> 2 | (y :: x) -> x end)")
	long := []impl.PNode{}
	for i := range 299 {
		long = append(long, pair(2*i+1, 2*i+2), pnode(impl.PVar, 0, "v"+impl.NumText(i)))
	}
	last := func(s string) []impl.PNode { return append(slices.Clone(long), pnode(impl.PVar, 0, s)) }
	checkGoodPat(t, "many names", last("v299")...)
	for _, s := range []string{"v0", "v1", "v150", "v298"} {
		checkNoPat(t, s+" twice", last(s)...)
	}
}

func TestPatMaxNodes(t *testing.T) {
	chain := func(n int) []impl.PNode {
		nodes := []impl.PNode{}
		for len(nodes) < n-1 {
			nodes = append(nodes, pnode(impl.PCon, 0, "A", len(nodes)+1))
		}
		return append(nodes, pnode(impl.PVar, 0, "x"))
	}
	want := layer{"(A ", ")"}.around(impl.MaxNodes-1, "x")
	if got := impl.PrintPat(impl.Pat{Nodes: chain(impl.MaxNodes)}); got != want {
		t.Errorf("a pattern with MaxNodes nodes is printed as %s", brief(got))
	}
	checkGoodPat(t, "MaxNodes nodes", chain(impl.MaxNodes)...)
	checkNoPat(t, "a node too many", chain(impl.MaxNodes+1)...)
	checkNoPat(t, "a million nodes", chain(1000000)...)
	wide := pnode(impl.PPair, 0, "", slices.Repeat([]int{1}, 1000000)...)
	checkNoPat(t, "a million children", wide, pnode(impl.PWild, 0, ""))
	// Parse does not count the nodes of a pattern.
	p := parsed(t, "match () with "+strings.Repeat("A ", impl.MaxNodes)+"x -> () end")
	checkNoProgram(t, "a parsed pattern with a node too many", p, patProgram(impl.Pat{Nodes: chain(impl.MaxNodes)}))
}
