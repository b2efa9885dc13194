package tests

import (
	"slices"
	"strings"
	"testing"

	"loop.example/g00395/impl"
)

// patTypes are the types of the programs of this file.
const patTypes = "type t = A | B of int; type 'a o = N | S of 'a; type ('a, 'b) e = L of 'a | R of 'b | P of ('b, 'a) e; "

// patsOf reads patterns that are separated by bars.
func patsOf(t *testing.T, text string) []impl.Pat {
	t.Helper()
	l := []impl.Pat{}
	if text != "" {
		for _, part := range strings.Split(text, "|") {
			l = append(l, patOf(t, part))
		}
	}
	return l
}

// patsTyped is what PatsTy returns, after it has been compared with the second
// typer, and the type checked.
func patsTyped(t *testing.T, p impl.Program, l []impl.Pat) (impl.Ty, int) {
	t.Helper()
	got, code := impl.PatsTy(p, l)
	want, wantCode := secondPats(p, l)
	if code != wantCode || !sameTy(got, want) {
		t.Errorf("PatsTy is %s and %d, not %s and %d", brief(tyText(got)), code, brief(tyText(want)), wantCode)
	}
	if code == 0 && (!impl.TyOk(got) || !namesInOrder(got)) {
		t.Errorf("the type is %s", brief(tyText(got)))
	}
	return got, code
}

// checkPats checks the type of patterns, for programs with and without a type.
func checkPats(t *testing.T, pats string, want string, wantCode int) {
	t.Helper()
	for _, expr := range []string{"()", "fun x -> x x", "y", "match 1 with true -> 1 end"} {
		got, code := patsTyped(t, parsed(t, patTypes+expr), patsOf(t, pats))
		if code != wantCode || impl.PrintTy(got) != want {
			t.Errorf("PatsTy is %s and %d, not %s and %d, for %s", impl.PrintTy(got), code, want, wantCode, pats)
		}
	}
}

func TestPatsTy(t *testing.T) {
	checkPats(t, "_", "'a", 0)
	checkPats(t, "x", "'a", 0)
	checkPats(t, "1", "int", 0)
	checkPats(t, "-1", "int", 0)
	checkPats(t, "()", "unit", 0)
	checkPats(t, "true", "bool", 0)
	checkPats(t, "[]", "('a) list", 0)
	checkPats(t, "x :: y", "('a) list", 0)
	checkPats(t, "1 :: y", "(int) list", 0)
	checkPats(t, "x :: () :: y", "(unit) list", 0)
	checkPats(t, "(x, y)", "('a * 'b)", 0)
	checkPats(t, "(_, (_, _))", "('a * ('b * 'c))", 0)
	checkPats(t, "(1, ((), []))", "(int * (unit * ('a) list))", 0)
	checkPats(t, "A", "t", 0)
	checkPats(t, "B _", "t", 0)
	checkPats(t, "N", "('a) o", 0)
	checkPats(t, "S (S 1)", "((int) o) o", 0)
	checkPats(t, "L 1", "(int, 'a) e", 0)
	checkPats(t, "R 1", "('a, int) e", 0)
	checkPats(t, "P (L 1)", "('a, int) e", 0)
	checkPats(t, "P x", "('a, 'b) e", 0)
}

func TestPatsTyOfSeveral(t *testing.T) {
	checkPats(t, "_|_", "'a", 0)
	checkPats(t, "x|y|x", "'a", 0)
	checkPats(t, "x|1", "int", 0)
	checkPats(t, "1|x", "int", 0)
	checkPats(t, "_|_|[]|_", "('a) list", 0)
	checkPats(t, "[]|1 :: _", "(int) list", 0)
	checkPats(t, "1 :: _|[]", "(int) list", 0)
	checkPats(t, "(x, 1)|(true, y)", "(bool * int)", 0)
	checkPats(t, "(x, 1)|y|(true, y)", "(bool * int)", 0)
	checkPats(t, "(x, y)|(y, x)", "('a * 'b)", 0)
	checkPats(t, "(y, x)|((z, 1), _)|(_, [])", "(('a * int) * ('b) list)", 0)
	checkPats(t, "A|B 1|_", "t", 0)
	checkPats(t, "N|S N|S (S true)", "((bool) o) o", 0)
	checkPats(t, "L 1|R true", "(int, bool) e", 0)
	checkPats(t, "L 1|P (L true)", "(int, bool) e", 0)
	checkPats(t, "P (P x)|L (1, y)|R []", "((int * 'a), ('b) list) e", 0)
}

func TestPatsTyCodes(t *testing.T) {
	checkPats(t, "1|true", "", 24)
	checkPats(t, "true|1", "", 24)
	checkPats(t, "1|()", "", 24)
	checkPats(t, "1|1|1|[]", "", 24)
	checkPats(t, "_|1|true", "", 24)
	checkPats(t, "1|_|true", "", 24)
	checkPats(t, "1|true|_", "", 24)
	checkPats(t, "(x, 1)|(2, y)|(true, _)", "", 24)
	checkPats(t, "(1, x)|(y, 1)|(1, true)", "", 24)
	checkPats(t, "[]|(x, y)", "", 24)
	checkPats(t, "[]|N", "", 24)
	checkPats(t, "A|N", "", 24)
	checkPats(t, "B true", "", 24)
	checkPats(t, "1 :: true :: _", "", 24)
	checkPats(t, "1 :: 2", "", 24)
	checkPats(t, "L 1|L true", "", 24)
	checkPats(t, "L 1|P (R true)", "", 24)
	checkPats(t, "C", "", 22)
	checkPats(t, "C 1", "", 22)
	checkPats(t, "(1, C)", "", 22)
	checkPats(t, "_|C", "", 22)
	checkPats(t, "A 1", "", 23)
	checkPats(t, "B", "", 23)
	checkPats(t, "_|S", "", 23)
	checkPats(t, "B B", "", 23)
}

// TestFirstCodeOfPatsTy: every pattern comes before the constraint for it, and
// this comes before the next pattern.
func TestFirstCodeOfPatsTy(t *testing.T) {
	checkPats(t, "1|true|C", "", 24)
	checkPats(t, "1|C|true", "", 22)
	checkPats(t, "1|(true, C)", "", 22)
	checkPats(t, "1|B true|C", "", 24)
	checkPats(t, "B|C", "", 23)
	checkPats(t, "C|B", "", 22)
	checkPats(t, "(B, C)", "", 23)
	checkPats(t, "(B true, C)", "", 24)
	checkPats(t, "(1, C)|B", "", 22)
	checkPats(t, "1|()|B", "", 24)
	checkPats(t, "1|B|()", "", 23)
}

func TestPatsTyOfBadArguments(t *testing.T) {
	good := parsed(t, patTypes+"()")
	checkPats(t, "", "", 1)
	if got, code := patsTyped(t, good, nil); code != 1 || len(got.Items) > 0 {
		t.Errorf("PatsTy of nil is %s and %d", tyText(got), code)
	}
	bad := []impl.Pat{{}, {Nodes: []impl.PNode{}}, {Nodes: []impl.PNode{{}}}}
	for _, n := range []impl.PNode{
		pnode(0, 0, ""), pnode(7, 0, ""), pnode(impl.PWild, 1, ""), pnode(impl.PVar, 0, ""), pnode(impl.PVar, 0, "X"), pnode(impl.PVar, 0, "let"), pnode(impl.PCon, 0, "a"),
		pnode(impl.PInt, impl.MinInt, ""), pnode(impl.PCon, 0, "::"), pnode(impl.PPair, 0, ""), pnode(impl.PUnit, 0, "x"), pnode(impl.PWild, 0, "", 1), pnode(impl.PWild, 0, "", 0),
	} {
		bad = append(bad, impl.Pat{Nodes: []impl.PNode{n}})
	}
	twice := patOf(t, "(x, y)")
	twice.Nodes[2].S = "x"
	long := patOf(t, "_")
	for range impl.MaxNodes {
		for i := range long.Nodes {
			for j := range long.Nodes[i].Kids {
				long.Nodes[i].Kids[j]++
			}
		}
		long.Nodes = slices.Insert(long.Nodes, 0, pnode(impl.PCon, 0, "S", 1))
	}
	for _, q := range append(bad, twice, long) {
		for _, before := range []string{"", "1", "1|true", "C", "_|_|_"} {
			for _, after := range []string{"", "1", "C|B"} {
				l := slices.Concat(patsOf(t, before), []impl.Pat{q}, patsOf(t, after))
				if got, code := patsTyped(t, good, l); code != 1 || len(got.Items) > 0 {
					t.Errorf("PatsTy is %s and %d for %v", tyText(got), code, q)
				}
			}
		}
	}
	for _, types := range []string{"type int = A;", "type t = A | A;", "type t = A of u;"} {
		for _, pats := range []string{"_", "1|true", "C", "A"} {
			if got, code := patsTyped(t, parsed(t, types+" ()"), patsOf(t, pats)); code != 1 || len(got.Items) > 0 {
				t.Errorf("PatsTy is %s and %d for %s", tyText(got), code, types)
			}
		}
	}
	if got, code := patsTyped(t, impl.Program{Types: good.Types}, patsOf(t, "1")); code != 1 || len(got.Items) > 0 {
		t.Errorf("PatsTy is %s and %d without an expression", tyText(got), code)
	}
}

// widePat is a pattern of n pairs, each in the second child of another.
func widePat(n int, last impl.PNode) impl.Pat {
	nodes := []impl.PNode{}
	for range n {
		at := len(nodes)
		nodes = append(nodes, pnode(impl.PPair, 0, "", at+1, at+2), pnode(impl.PWild, 0, ""))
	}
	return impl.Pat{Nodes: append(nodes, last)}
}

// TestPatsTyMaxItems has types with MaxItems items, and with more.
func TestPatsTyMaxItems(t *testing.T) {
	p := parsed(t, patTypes+"()")
	wild, full, more := pnode(impl.PWild, 0, ""), widePat(99, pnode(impl.PCon, 0, "[]")), widePat(100, pnode(impl.PWild, 0, ""))
	check := func(what string, wantCode int, items int, l ...impl.Pat) {
		t.Helper()
		if got, code := patsTyped(t, p, l); code != wantCode || len(got.Items) != items {
			t.Errorf("%s: the type has %d items, the code is %d, not %d", what, len(got.Items), code, wantCode)
		}
	}
	anything := impl.Pat{Nodes: []impl.PNode{wild}}
	check("MaxItems - 1 items", 0, impl.MaxItems-1, widePat(99, wild))
	check("MaxItems items", 0, impl.MaxItems, full)
	check("an item more", 26, 0, more)
	check("599 items", 26, 0, widePat(299, wild))
	check("an item more at last", 26, 0, anything, more)
	check("an item more at first", 26, 0, more, anything)
	check("twice MaxItems items", 0, impl.MaxItems, full, full, anything)
	check("26 instead of 24", 26, 0, patOf(t, "1"), more)
	check("24", 24, 0, patOf(t, "1"), full)
	check("26 before 22", 26, 0, anything, more, patOf(t, "C"))
	check("22 before 26", 22, 0, anything, patOf(t, "C"), more)
	// The types of both are not too large, nor is what replaces a variable, but
	// the common type is.
	left := pairOf(widePat(49, wild), anything)
	check("both sides, MaxItems - 1 items", 0, impl.MaxItems-1, left, pairOf(anything, widePat(49, wild)))
	check("both sides, MaxItems items", 0, impl.MaxItems, left, pairOf(anything, widePat(49, pnode(impl.PCon, 0, "[]"))))
	check("both sides, an item more", 26, 0, left, pairOf(anything, widePat(50, wild)))
	check("both sides, an item more, and 22", 22, 0, left, pairOf(anything, widePat(50, wild)), patOf(t, "C"))
	check("both sides, an item more, and 24", 26, 0, left, pairOf(anything, widePat(50, wild)), patOf(t, "1"))
}

func pairOf(a impl.Pat, b impl.Pat) impl.Pat {
	top := pnode(impl.PPair, 0, "", 1, 1+len(a.Nodes))
	return impl.Pat{Nodes: slices.Concat([]impl.PNode{top}, shifted(a, 1), shifted(b, 1+len(a.Nodes)))}
}

// shifted are the nodes of a pattern as they are further behind.
func shifted(q impl.Pat, by int) []impl.PNode {
	nodes := slices.Clone(q.Nodes)
	for i, n := range nodes {
		nodes[i].Kids = slices.Clone(n.Kids)
		for j := range n.Kids {
			nodes[i].Kids[j] += by
		}
	}
	return nodes
}

// TestManyPatterns: the type is valid, although there are more variables than
// a type can have numbers for.
func TestManyPatterns(t *testing.T) {
	p := parsed(t, patTypes+"()")
	l := slices.Concat(slices.Repeat(patsOf(t, "_"), 10005), patsOf(t, "(x, y)|(_, z)|_"))
	got, code := impl.PatsTy(p, l)
	if code != 0 || impl.PrintTy(got) != "('a * 'b)" || !impl.TyOk(got) {
		t.Errorf("the type is %s, the code %d", tyText(got), code)
	}
	if got, code := impl.PatsTy(p, append(l, patsOf(t, "(x, 1)|(y, true)")...)); code != 24 || len(got.Items) > 0 {
		t.Errorf("the type is %s, the code %d", tyText(got), code)
	}
}

// TestPatternsOfAMatch: the patterns of a match have the type that the match
// has for them.
func TestPatternsOfAMatch(t *testing.T) {
	typed := 0
	for seed := range uint32(3000) {
		g := &lot{seed: seed}
		p := parsed(t, "type t = A | B of int; type 'a o = N | S of 'a; ()")
		names := 0
		d := &draft{Node: impl.Node{Kind: impl.EFun, S: "v"}}
		match := &draft{Node: impl.Node{Kind: impl.EMatch}, kids: []*draft{variable("v")}}
		for range 1 + g.next(3) {
			match.pats = append(match.pats, g.knownPat(g.next(6), &names))
			match.kids = append(match.kids, node(impl.EUnit, ""))
		}
		d.kids = []*draft{match}
		p.Nodes = d.nodes(nil)
		common, code := patsTyped(t, p, p.Nodes[1].Pats)
		whole, wholeCode, _ := inferred(t, p)
		if code != wholeCode || code == 0 && !sameTy(whole, around("->", common, ty("unit"))) {
			t.Fatalf("PatsTy is %s and %d for %s", tyText(common), code, impl.PrintProgram(p))
		}
		if code == 0 {
			typed++
		}
	}
	if typed < 500 || typed > 2500 {
		t.Errorf("%d of the matches have a type", typed)
	}
}

// knownPat is a pattern with constructors that are mostly right.
func (g *lot) knownPat(size int, names *int) *patDraft {
	d := g.pat(size, names)
	d.known(g)
	return d
}

func (d *patDraft) known(g *lot) {
	if d.Kind == impl.PCon && impl.ConOk(d.S) {
		d.S = []string{g.of("A", "N"), g.of("B", "S", "S")}[len(d.kids)]
		if g.next(40) == 0 {
			d.S = g.of("A", "B", "C", "N", "S")
		}
	}
	for _, k := range d.kids {
		k.known(g)
	}
}
