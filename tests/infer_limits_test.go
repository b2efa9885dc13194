package tests

import (
	"slices"
	"strconv"
	"testing"

	"loop.example/g00395/impl"
)

// placeAt is the At of the node with an index in the programs of this file.
func placeAt(index int) int { return 7 + 3*index }

// built is a program with these types whose nodes all have different offsets.
func built(t *testing.T, types string, d *draft) impl.Program {
	t.Helper()
	p := impl.Program{Types: parsed(t, types+" ()").Types, Nodes: d.nodes(nil)}
	for i := range p.Nodes {
		p.Nodes[i].At = placeAt(i)
	}
	return p
}

// boxed are the types of the programs of this file: a constructor adds one
// item to a type, and its size is not limited.
const boxed = "type 'a box = Box of 'a;"

func checkBuilt(t *testing.T, what string, d *draft, items int) {
	t.Helper()
	got, code, at := inferred(t, built(t, boxed, d))
	if code != 0 || len(got.Items) != items {
		t.Errorf("%s: the type has %d items, the code is %d at %d", what, len(got.Items), code, at)
	}
}

// checkBuiltFault checks the code and the node that has the error, or -1 for
// the whole program.
func checkBuiltFault(t *testing.T, what string, d *draft, want int, index int) {
	t.Helper()
	place := 0
	if index >= 0 {
		place = placeAt(index)
	}
	if got, code, at := inferred(t, built(t, boxed, d)); code != want || at != place || len(got.Items) > 0 {
		t.Errorf("%s: the code is %d at %d, not %d at %d", what, code, at, want, place)
	}
}

func one() *draft { return &draft{Node: impl.Node{Kind: impl.EInt, N: 1}} }

func variable(name string) *draft { return node(impl.EVar, name) }

// refs puts a reference around an expression n times.
func refs(n int, d *draft) *draft {
	for range n {
		d = node(impl.ERef, "", d)
	}
	return d
}

func box(d *draft) *draft { return node(impl.ECon, "Box", d) }

// tooLarge has a type of MaxItems + 1 items, and so many nodes.
func tooLarge() *draft { return box(refs(impl.MaxItems-1, one())) }

const tooLargeNodes = impl.MaxItems + 1

func TestMaxItemsOfNodes(t *testing.T) {
	const most = impl.MaxItems
	checkBuilt(t, "ERef", refs(most-1, one()), most)
	checkBuiltFault(t, "ERef", refs(most, one()), 26, 0)
	checkBuiltFault(t, "ERef in others", refs(most+3, one()), 26, 3)
	checkBuilt(t, "EPair", node(impl.EPair, "", refs(100, one()), refs(97, one())), most)
	checkBuiltFault(t, "EPair", node(impl.EPair, "", refs(100, one()), refs(98, one())), 26, 0)
	checkBuiltFault(t, "EPair", refs(2, node(impl.EPair, "", one(), refs(198, one()))), 26, 2)
	checkBuilt(t, "EFun", node(impl.EFun, "x", refs(197, one())), most)
	checkBuiltFault(t, "EFun", node(impl.EFun, "x", refs(198, one())), 26, 0)
	checkBuilt(t, "EFun with its parameter", node(impl.EFun, "x", refs(197, variable("x"))), most)
	checkBuiltFault(t, "EFun with its parameter", node(impl.EFun, "x", refs(198, variable("x"))), 26, 0)
	checkBuiltFault(t, "EFun in another", node(impl.EFun, "y", node(impl.EFun, "x", refs(198, variable("x")))), 26, 1)
	checkBuiltFault(t, "EFun around another", node(impl.EFun, "y", node(impl.EFun, "x", refs(197, variable("x")))), 26, 0)
	checkBuilt(t, "ECon", box(refs(most-2, one())), most)
	checkBuiltFault(t, "the program", tooLarge(), 26, -1)
	checkBuiltFault(t, "ECon of what is too large", box(refs(most, one())), 26, 1)
	let := func(first *draft, second *draft) *draft { return node(impl.ELet, "x", first, second) }
	checkBuilt(t, "a name that is not used", let(tooLarge(), one()), 1)
	checkBuilt(t, "EVar", let(box(refs(most-2, one())), variable("x")), most)
	checkBuiltFault(t, "EVar", let(tooLarge(), variable("x")), 26, 1+tooLargeNodes)
	checkBuiltFault(t, "EVar in a pair", let(tooLarge(), node(impl.EPair, "", one(), variable("x"))), 26, 3+tooLargeNodes)
	checkBuiltFault(t, "the second child of a let", let(one(), tooLarge()), 26, -1)
	checkBuiltFault(t, "the EFun of a let rec", node(impl.ERec, "f", node(impl.EFun, "x", refs(198, one())), variable("f")), 26, 1)
	checkBuilt(t, "the EFun of a let rec", node(impl.ERec, "f", node(impl.EFun, "x", refs(197, one())), variable("f")), most)
}

// TestLargeTypesLast: a type that is too large is found after everything else
// of its node.
func TestLargeTypesLast(t *testing.T) {
	most := refs(impl.MaxItems-1, one())
	checkBuiltFault(t, "EPair", node(impl.EPair, "", most, variable("y")), 21, 201)
	checkBuiltFault(t, "EPair", node(impl.EPair, "", tooLarge(), variable("y")), 21, 202)
	checkBuiltFault(t, "EFun", node(impl.EFun, "x", refs(198, variable("y"))), 21, 199)
	checkBuiltFault(t, "ERef", refs(impl.MaxItems+1, variable("y")), 21, impl.MaxItems+1)
	checkBuiltFault(t, "ERef", refs(impl.MaxItems+1, node(impl.EPrim, "+", one(), node(impl.EUnit, ""))), 24, impl.MaxItems+1)
	checkBuiltFault(t, "two pairs", node(impl.EPair, "", node(impl.EPair, "", most, one()), variable("y")), 26, 1)
}

// TestLargeTypesInConstraints has every constraint with a type that is too
// large, although Unify would return another code, or none.
func TestLargeTypesInConstraints(t *testing.T) {
	unit, yes, large := node(impl.EUnit, ""), node(impl.ECon, "true"), tooLarge()
	call := func(f *draft, x *draft) *draft { return node(impl.EApp, "", f, x) }
	for what, d := range map[string]*draft{
		"ECon": box(large), "function of EApp": call(large, one()), "argument of EApp": call(variable("print"), large),
		"first of EIf": node(impl.EIf, "", large, one(), one()), "second of EIf": node(impl.EIf, "", yes, large, one()),
		"third of EIf": node(impl.EIf, "", yes, one(), large), "both of EIf": node(impl.EIf, "", yes, large, large),
		"first of +": node(impl.EPrim, "+", large, one()), "second of +": node(impl.EPrim, "+", one(), large),
		"first of ^": node(impl.EPrim, "^", large, one()), "first of =": node(impl.EPrim, "=", large, large),
		"ESeq": node(impl.ESeq, "", large, one()), "ERaise": node(impl.ERaise, "", large), "EGet": node(impl.EGet, "", large),
		"first of ETry": node(impl.ETry, "x", large, one()), "second of ETry": node(impl.ETry, "x", one(), large),
		"first of ESet": node(impl.ESet, "", large, one()), "second of ESet": node(impl.ESet, "", refs(1, one()), large),
		"matched": arms(large, one()), "bodies": arms(one(), large, one()), "second body": arms(one(), one(), large),
	} {
		checkBuiltFault(t, what, d, 26, 0)
	}
	checkBuilt(t, "second of ESeq", node(impl.ESeq, "", unit, box(refs(impl.MaxItems-2, one()))), impl.MaxItems)
	checkBuiltFault(t, "second of ESeq", node(impl.ESeq, "", unit, large), 26, -1)
	checkBuiltFault(t, "the only body", arms(one(), large), 26, -1)
	checkBuilt(t, "the argument of a function", call(node(impl.EFun, "x", one()), refs(197, one())), 1)
	checkBuiltFault(t, "the argument of a function", call(node(impl.EFun, "x", one()), refs(198, one())), 26, 0)
	checkBuilt(t, "the second child of ESet", node(impl.ESet, "", refs(199, one()), refs(198, one())), 1)
	checkBuiltFault(t, "the second child of ESet", node(impl.ESet, "", refs(199, one()), refs(199, one())), 26, 0)
	checkBuilt(t, "two types of MaxItems items", node(impl.EIf, "", yes, refs(199, one()), refs(199, one())), impl.MaxItems)
	checkBuiltFault(t, "types that differ at the end", node(impl.EIf, "", yes, refs(199, one()), refs(199, yes)), 24, 0)
}

// TestLargeTypesAndOtherCodes has types that are not equal, or not finite, and
// in one case of each two also too large.
func TestLargeTypesAndOtherCodes(t *testing.T) {
	yes := node(impl.ECon, "true")
	ends := func(name string, n int) *draft {
		d := node(impl.EIf, "", yes, box(refs(n, variable(name))), variable(name))
		return node(impl.EFun, "x", d)
	}
	checkBuiltFault(t, "an endless type", ends("x", 198), 25, 1)
	checkBuiltFault(t, "an endless type that is too large", ends("x", 199), 26, 1)
	differ := func(n int) *draft { return node(impl.EIf, "", yes, box(refs(n, one())), one()) }
	checkBuiltFault(t, "different types", differ(198), 24, 0)
	checkBuiltFault(t, "different types that are too large", differ(199), 26, 0)
	same := func(n int) *draft { return node(impl.EIf, "", yes, box(refs(n, one())), box(refs(n, one()))) }
	checkBuilt(t, "equal types", same(198), impl.MaxItems)
	checkBuiltFault(t, "equal types that are too large", same(199), 26, 0)
}

// either is an expression of type int in which two expressions have the same
// type. x and y are of any type. eitherIf is the node of the constraint.
func either(first *draft, second *draft) *draft {
	d := node(impl.EIf, "", node(impl.ECon, "true"), first, second)
	d = node(impl.ELet, "z", d, one())
	d = node(impl.ELet, "y", node(impl.ERaise, "", one()), d)
	return node(impl.ELet, "x", node(impl.ERaise, "", one()), d)
}

const eitherIf = 7

// TestLargeSubstitutions: a type becomes too large while two types, which are
// not too large, are unified.
func TestLargeSubstitutions(t *testing.T) {
	pair := func(a *draft, b *draft) *draft { return node(impl.EPair, "", a, b) }
	twice := func(d *draft) *draft { return pair(d, d) }
	x, y, yes := variable("x"), variable("y"), node(impl.ECon, "true")
	wide, full, more := twice(refs(49, y)), refs(49, one()), refs(50, one())
	checkBuilt(t, "x and then y", either(pair(x, y), pair(wide, full)), 1)
	checkBuilt(t, "x and then y, MaxItems", either(pair(x, y), pair(refs(1, wide), full)), 1)
	checkBuiltFault(t, "x and then y, an item more", either(pair(x, y), pair(wide, more)), 26, eitherIf)
	checkBuilt(t, "y and then x", either(pair(y, x), pair(full, wide)), 1)
	checkBuilt(t, "y and then x, MaxItems", either(pair(y, x), pair(full, refs(1, wide))), 1)
	checkBuiltFault(t, "y and then x, an item more", either(pair(y, x), pair(more, wide)), 26, eitherIf)
	checkBuiltFault(t, "26 and then 24", either(pair(x, pair(y, one())), pair(wide, pair(more, yes))), 26, eitherIf)
	checkBuiltFault(t, "24 and then 26", either(pair(one(), pair(x, y)), pair(yes, pair(wide, more))), 24, eitherIf)
	checkBuiltFault(t, "24 instead of 26", either(pair(x, pair(y, one())), pair(wide, pair(full, yes))), 24, eitherIf)
	checkBuiltFault(t, "26 and then 25", either(pair(x, pair(y, y)), pair(wide, pair(more, refs(1, y)))), 26, eitherIf)
	checkBuiltFault(t, "25 and then 26", either(pair(y, pair(x, y)), pair(refs(1, y), pair(wide, more))), 25, eitherIf)
	checkBuiltFault(t, "25 and 26 at once", either(pair(y, x), pair(refs(50, x), wide)), 25, eitherIf)
}

// discarded is a call whose argument has a type that nothing else has.
func discarded(arg *draft) *draft {
	return node(impl.EApp, "", node(impl.EFun, "z", node(impl.EUnit, "")), arg)
}

// TestAllTypesCount: what replaces any variable counts, also if the variable
// is not in the types of the constraint.
func TestAllTypesCount(t *testing.T) {
	for n, large := range map[int]bool{1: false, 99: false, 100: false, 101: true, 102: true, 150: true} {
		set := node(impl.ESet, "", variable("x"), refs(n-1, one()))
		d := node(impl.EFun, "x", node(impl.ESeq, "", discarded(refs(100, node(impl.EGet, "", variable("x")))), set))
		what := "a discarded variable and " + strconv.Itoa(n)
		if large {
			checkBuiltFault(t, what, d, 26, 107)
		} else {
			checkBuilt(t, what, d, n+3)
		}
	}
}

// TestDoubledTypes: every type is twice as large as the one before it.
func TestDoubledTypes(t *testing.T) {
	text := "fun x -> "
	for range 6 {
		text += "let x = (x, x) in "
		if _, code, at := inferred(t, parsed(t, text+"1")); code != 0 {
			t.Errorf("the code is %d at %d for %s", code, at, text)
		}
	}
	checkFault(t, text+"let x = @(x, x) in 1", 26)
	checkFault(t, text+"let x = @(x, x) in y", 26)
	checkFault(t, text+"(@y, (x, x))", 21)
	checkTyped(t, "let d = fun x -> (x, x) in let f = fun x -> d (d (d (d (d (d x))))) in 1", "int")
	checkFault(t, "let d = fun x -> (x, x) in fun x -> d @(d (d (d (d (d (d x))))))", 26)
	checkFault(t, "let d = fun x -> (x, x) in d @(d (d (d (d (d (d 1))))))", 26)
}

// TestManyParameters has functions of MaxItems items and more.
func TestManyParameters(t *testing.T) {
	text, want := "", ""
	for i := range 99 {
		text += "fun x" + strconv.Itoa(i) + " -> "
		want += "-> " + strconv.Itoa(i) + " "
	}
	got, code, _ := inferred(t, parsed(t, text+"1"))
	if code != 0 || !sameTy(got, ty(want+"int")) {
		t.Errorf("the type is %s, the code %d", brief(tyText(got)), code)
	}
	checkFault(t, "@fun y -> "+text+"1", 26)
}

// manyWilds is a match with patterns that have more than so many variables.
func manyWilds(more int) *draft {
	d := &draft{Node: impl.Node{Kind: impl.EMatch}, kids: []*draft{node(impl.ECon, "Leaf")}}
	for count := 0; count <= more; {
		q := &patDraft{PNode: impl.PNode{Kind: impl.PWild}}
		for range 190 {
			pair := &patDraft{PNode: impl.PNode{Kind: impl.PPair}, kids: []*patDraft{{PNode: impl.PNode{Kind: impl.PWild}}, q}}
			q = &patDraft{PNode: impl.PNode{Kind: impl.PCon, S: "Tree"}, kids: []*patDraft{pair}}
			count++
		}
		d.pats = append(d.pats, q)
		d.kids = append(d.kids, node(impl.EUnit, ""))
	}
	return d
}

// TestManyVariables: the type of a program is valid, although there are more
// variables in the program than a type can have numbers for.
func TestManyVariables(t *testing.T) {
	const types = "type tree = Leaf | Tree of tree * tree;"
	d := node(impl.EPair, "", manyWilds(10000), node(impl.EFun, "x", node(impl.EFun, "y", variable("x"))))
	p := built(t, types, d)
	got, code, at := impl.Infer(p)
	if code != 0 || at != 0 || impl.PrintTy(got) != "(unit * ('a -> ('b -> 'a)))" || !impl.TyOk(got) {
		t.Errorf("the type is %s, the code %d at %d", tyText(got), code, at)
	}
	d.kids[1].kids[0].kids[0] = node(impl.EApp, "", variable("x"), variable("x"))
	if got, code, _ := impl.Infer(built(t, types, d)); code != 25 || len(got.Items) > 0 {
		t.Errorf("the type is %s, the code %d", tyText(got), code)
	}
	d.kids[1] = node(impl.ELet, "f", node(impl.EFun, "x", variable("x")), node(impl.EPair, "", variable("f"), variable("f")))
	if got, code, _ := impl.Infer(built(t, types, d)); code != 0 || impl.PrintTy(got) != "(unit * (('a -> 'a) * ('b -> 'b)))" {
		t.Errorf("the type is %s, the code %d", tyText(got), code)
	}
}

// TestLargestMatch has patterns of MaxNodes nodes, whose variables replace one
// another.
func TestLargestMatch(t *testing.T) {
	q := impl.Pat{}
	for i := range impl.MaxNodes - 1 {
		q.Nodes = append(q.Nodes, pnode(impl.PCon, 0, "A", i+1))
	}
	q.Nodes = append(q.Nodes, pnode(impl.PVar, 0, "x"))
	p := built(t, "type ('a, 'b) t = A of ('b, 'a) t;", node(impl.EFun, "v", arms(variable("v"), slices.Repeat([]*draft{variable("v")}, 200)...)))
	l := slices.Repeat([]impl.Pat{q}, 200)
	p.Nodes[1].Pats = l
	if got, code, at := impl.Infer(p); code != 0 || at != 0 || impl.PrintTy(got) != "(('a, 'b) t -> ('a, 'b) t)" {
		t.Errorf("the type is %s, the code %d at %d", tyText(got), code, at)
	}
	if got, code := impl.PatsTy(p, l); code != 0 || impl.PrintTy(got) != "('a, 'b) t" {
		t.Errorf("the type is %s, the code %d", tyText(got), code)
	}
	p.Nodes[len(p.Nodes)-1] = impl.Node{Kind: impl.EVar, S: "x", At: 5}
	if got, code, at := impl.Infer(p); code != 0 || at != 0 || impl.PrintTy(got) != "(('a, 'a) t -> ('a, 'a) t)" {
		t.Errorf("the type is %s, the code %d at %d", tyText(got), code, at)
	}
}
