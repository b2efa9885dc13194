package tests

import (
	"math"
	"slices"
	"strconv"
	"strings"
	"testing"

	"loop.example/g00395/impl"
)

// everyForm is a program with nodes and patterns of every kind.
const everyForm = `type t = A | B of int; type 'a u = C of 'a ref list | D; type ('a, 'b) w = E of ('a -> 'b) * (int, 'b) w;
let rec f n = if n <= 0 then "" else f (n - 1) ^ "s" in
let r = ref (B 1, ()) in
try match (f, !r) with (g, (B k, _)) -> r := (A, ()); raise k | (_, (true, ())) -> 1 :: 2 :: [] | -3 :: (x, []) -> fun y -> false end with e -> (A) (- e) end`

// checkBroken checks that a program is not valid any more after a change.
func checkBroken(t *testing.T, what string, good impl.Program, change func(p *impl.Program)) {
	t.Helper()
	bad := cloned(good)
	change(&bad)
	checkNoProgram(t, what, bad, good)
}

// checkKept checks that a program is still valid after a change.
func checkKept(t *testing.T, what string, good impl.Program, change func(p *impl.Program)) {
	t.Helper()
	p := cloned(good)
	change(&p)
	if !impl.ProgramOk(p) || impl.PrintProgram(p) == "" || !impl.SameProgram(p, p) {
		t.Errorf("%s: the program is not valid", what)
	}
}

func TestEveryFormIsInTheProgram(t *testing.T) {
	p := parsed(t, everyForm)
	for kind := impl.EInt; kind <= impl.ESeq; kind++ {
		if !slices.ContainsFunc(p.Nodes, func(n impl.Node) bool { return n.Kind == kind }) {
			t.Errorf("there is no node of kind %s", exprKinds[kind])
		}
	}
	checkKept(t, "every form", p, func(p *impl.Program) {})
}

// TestNodeFields changes one field of every node in turn.
func TestNodeFields(t *testing.T) {
	good := parsed(t, everyForm)
	for i, n := range good.Nodes {
		what := exprKinds[n.Kind] + " at " + strconv.Itoa(n.At) + ": "
		change := func(edit func(n *impl.Node)) func(p *impl.Program) {
			return func(p *impl.Program) { edit(&p.Nodes[i]) }
		}
		for _, kind := range append([]int{0, 20, 21}, farNumbers...) {
			checkBroken(t, what+"an unknown kind", good, change(func(n *impl.Node) { n.Kind = kind }))
		}
		for _, at := range []int{-1, -2, math.MinInt} {
			checkBroken(t, what+"At "+strconv.Itoa(at), good, change(func(n *impl.Node) { n.At = at }))
		}
		for _, at := range []int{0, impl.MaxText + 1, math.MaxInt} {
			checkKept(t, what+"At "+strconv.Itoa(at), good, change(func(n *impl.Node) { n.At = at }))
		}
		if n.Kind != impl.EInt {
			for _, number := range append([]int{1}, farNumbers...) {
				checkBroken(t, what+"a number", good, change(func(n *impl.Node) { n.N = number }))
			}
		}
		if n.Kind != impl.EMatch {
			wild := impl.Pat{Nodes: []impl.PNode{{Kind: impl.PWild}}}
			checkBroken(t, what+"a pattern", good, change(func(n *impl.Node) { n.Pats = []impl.Pat{wild} }))
			checkBroken(t, what+"an empty pattern", good, change(func(n *impl.Node) { n.Pats = []impl.Pat{{}} }))
			checkKept(t, what+"an empty list", good, change(func(n *impl.Node) { n.Pats = []impl.Pat{} }))
		}
		for _, s := range wrongNames(n) {
			checkBroken(t, what+"S "+s, good, change(func(n *impl.Node) { n.S = s }))
		}
		for _, s := range rightNames(n) {
			checkKept(t, what+"S "+s, good, change(func(n *impl.Node) { n.S = s }))
		}
		if len(n.Kids) == 0 {
			checkKept(t, what+"an empty list", good, change(func(n *impl.Node) { n.Kids = []int{} }))
		}
		checkBroken(t, what+"one more child", good, change(func(n *impl.Node) { n.Kids = append(n.Kids, i+1) }))
		for k := range n.Kids {
			checkBroken(t, what+"a child less", good, change(func(n *impl.Node) { n.Kids = slices.Delete(n.Kids, k, k+1) }))
			checkBroken(t, what+"the node before", good, change(func(n *impl.Node) { n.Kids[k]-- }))
			checkBroken(t, what+"the node behind", good, change(func(n *impl.Node) { n.Kids[k]++ }))
			for _, far := range farNumbers {
				checkBroken(t, what+"a far child", good, change(func(n *impl.Node) { n.Kids[k] = far }))
			}
		}
	}
}

// wrongNames are strings that a node may not have as its S.
func wrongNames(n impl.Node) []string {
	switch n.Kind {
	case impl.EStr:
		return nil
	case impl.EVar, impl.EFun, impl.ELet, impl.ERec, impl.ETry:
		return badNames()
	case impl.ECon:
		if len(n.Kids) == 0 {
			return slices.Concat(slices.DeleteFunc(badCons(), isLoneName), []string{"::"})
		}
		if n.S == "::" {
			return badCons()
		}
		return append(badCons(), "::")
	case impl.EPrim:
		return slices.Concat(slices.DeleteFunc(badNames(), isOperator), []string{"==", "!", ";", "->", ",", ">", ">=", "-1", "+ ", " +", "<<", "=<", "x", "&", "**"})
	}
	return []string{"x", "A", "+", " ", "true", "::", "\x00"}
}

// rightNames are strings that a node may have as its S.
func rightNames(n impl.Node) []string {
	switch n.Kind {
	case impl.EStr:
		return append(badNames(), "x", strings.Repeat("x", impl.MaxText+1))
	case impl.EVar, impl.EFun, impl.ELet, impl.ERec, impl.ETry:
		return []string{"x", "abcdefghijkl", "a_1", "print", "lets"}
	case impl.ECon:
		if len(n.Kids) == 0 {
			return []string{"A", "Abcdefghijkl", "A_1", "true", "false", "[]"}
		}
		return []string{"A", "Abcdefghijkl", "A_1"}
	case impl.EPrim:
		return []string{"=", "<>", "<", "<=", "+", "-", "*", "/", "%", "^"}
	}
	return nil
}

func isLoneName(s string) bool { return s == "true" || s == "false" || s == "[]" }

func isOperator(s string) bool {
	return slices.Contains([]string{"=", "<>", "<", "<=", "+", "-", "*", "/", "%", "^"}, s)
}

func TestNumbersOfPrograms(t *testing.T) {
	good := parsed(t, "1 + 2")
	for _, n := range []int{0, 1, impl.MaxInt - 1, impl.MaxInt} {
		checkKept(t, impl.NumText(n), good, func(p *impl.Program) { p.Nodes[2].N = n })
		checkPrinted(t, impl.Program{Nodes: []impl.Node{{Kind: impl.EInt, N: n}}}, strconv.Itoa(n))
	}
	for _, n := range []int{-1, -2, -impl.MaxInt, impl.MinInt, impl.MaxInt + 1, math.MaxInt, math.MinInt} {
		checkBroken(t, strconv.Itoa(n), good, func(p *impl.Program) { p.Nodes[1].N = n })
		checkBroken(t, strconv.Itoa(n), good, func(p *impl.Program) { p.Nodes[2].N = n })
	}
}

// TestNodeCounts gives every kind of node every number of children.
func TestNodeCounts(t *testing.T) {
	for _, k := range []struct {
		kind   int
		s      string
		counts []int
	}{
		{impl.EInt, "", []int{0}}, {impl.EStr, "s", []int{0}}, {impl.EVar, "x", []int{0}}, {impl.EUnit, "", []int{0}},
		{impl.ECon, "A", []int{0, 1}}, {impl.ECon, "true", []int{0}}, {impl.ECon, "false", []int{0}}, {impl.ECon, "[]", []int{0}}, {impl.ECon, "::", nil},
		{impl.EFun, "x", []int{1}}, {impl.ERaise, "", []int{1}}, {impl.ERef, "", []int{1}}, {impl.EGet, "", []int{1}},
		{impl.EApp, "", []int{2}}, {impl.ELet, "x", []int{2}}, {impl.ERec, "x", nil}, {impl.EPrim, "+", []int{2}}, {impl.EPair, "", []int{2}},
		{impl.ETry, "x", []int{2}}, {impl.ESet, "", []int{2}}, {impl.ESeq, "", []int{2}}, {impl.EIf, "", []int{3}}, {impl.EMatch, "", nil},
	} {
		for count := range 6 {
			d := node(k.kind, k.s)
			for range count {
				d.kids = append(d.kids, node(impl.EUnit, ""))
			}
			checkForm(t, exprKinds[k.kind]+" "+k.s+" with "+strconv.Itoa(count)+" children", d, slices.Contains(k.counts, count))
		}
	}
	for count := range 5 {
		rec := node(impl.ERec, "f")
		cons := node(impl.ECon, "::")
		for i := range count {
			kids := []*draft{node(impl.EFun, "x", node(impl.EUnit, "")), node(impl.EUnit, "")}
			rec.kids = append(rec.kids, kids[min(i, 1)])
			cons.kids = append(cons.kids, node(impl.EPair, "", node(impl.EUnit, ""), node(impl.EUnit, "")))
		}
		checkForm(t, "a rec with "+strconv.Itoa(count)+" children", rec, count == 2)
		checkForm(t, "a :: with "+strconv.Itoa(count)+" pairs", cons, count == 1)
	}
	for pats := range 4 {
		for count := range 6 {
			d := node(impl.EMatch, "")
			for range count {
				d.kids = append(d.kids, node(impl.EUnit, ""))
			}
			for range pats {
				d.pats = append(d.pats, &patDraft{PNode: impl.PNode{Kind: impl.PWild}})
			}
			checkForm(t, "a match with "+strconv.Itoa(count)+" children and "+strconv.Itoa(pats)+" patterns", d, pats > 0 && count == pats+1)
		}
	}
}

// checkForm checks whether a form is valid by itself, and in another one.
func checkForm(t *testing.T, what string, d *draft, want bool) {
	t.Helper()
	p := impl.Program{Nodes: d.nodes(nil)}
	around := impl.Program{Nodes: node(impl.EPair, "", node(impl.EUnit, ""), node(impl.EGet, "", d)).nodes(nil)}
	for _, p := range []impl.Program{p, around} {
		if !want {
			checkNoProgram(t, what, p, impl.Program{Nodes: unitNodes()})
			continue
		}
		checkKept(t, what, p, func(*impl.Program) {})
		checkPrinted(t, p, impl.PrintProgram(p))
	}
}

// TestFirstChildren: a let rec needs a function, and a :: a pair.
func TestFirstChildren(t *testing.T) {
	unit := func() *draft { return node(impl.EUnit, "") }
	fun := func() *draft { return node(impl.EFun, "x", unit()) }
	pair := func() *draft { return node(impl.EPair, "", unit(), unit()) }
	others := func() []*draft {
		return []*draft{
			unit(), node(impl.EVar, "x"), node(impl.EStr, "x"), node(impl.ECon, "A"), node(impl.ECon, "A", unit()), node(impl.EApp, "", unit(), unit()), node(impl.ELet, "x", unit(), unit()),
			node(impl.ERec, "f", fun(), unit()), node(impl.EIf, "", unit(), unit(), unit()), node(impl.EPrim, "+", unit(), unit()), arms(unit(), unit()), node(impl.ERaise, "", unit()),
			node(impl.ETry, "x", unit(), unit()), node(impl.ERef, "", unit()), node(impl.EGet, "", unit()), node(impl.ESet, "", unit(), unit()), node(impl.ESeq, "", unit(), unit()), node(impl.EInt, ""),
		}
	}
	checkForm(t, "a rec of a function", node(impl.ERec, "f", fun(), unit()), true)
	checkForm(t, "a rec of a function, in a function", node(impl.ERec, "f", fun(), fun()), true)
	checkForm(t, "a rec of a pair", node(impl.ERec, "f", pair(), fun()), false)
	checkForm(t, "a :: of a pair", node(impl.ECon, "::", pair()), true)
	checkForm(t, "a :: of a function", node(impl.ECon, "::", fun()), false)
	for i, d := range others() {
		checkForm(t, "a rec of "+exprKinds[d.Kind], node(impl.ERec, "f", d, fun()), false)
		checkForm(t, "a rec in "+exprKinds[d.Kind], node(impl.ERec, "f", fun(), others()[i]), true)
		checkForm(t, "a :: of "+exprKinds[d.Kind], node(impl.ECon, "::", others()[i]), false)
		checkForm(t, "an A of "+exprKinds[d.Kind], node(impl.ECon, "A", others()[i]), true)
		checkForm(t, "a let of "+exprKinds[d.Kind], node(impl.ELet, "f", others()[i], unit()), true)
	}
	checkForm(t, "a string ::", node(impl.EStr, "::"), true)
	checkForm(t, "a string rec", node(impl.EStr, "let rec"), true)
}

// TestPatternsOfPrograms breaks one pattern of a match.
func TestPatternsOfPrograms(t *testing.T) {
	good := parsed(t, "!(match 0 with (x, 1) -> 1 | A y -> 2 | z -> 3 end)")
	for arm := range 3 {
		edit := func(change func(q *impl.Pat)) func(p *impl.Program) {
			return func(p *impl.Program) { change(&p.Nodes[1].Pats[arm]) }
		}
		checkBroken(t, "no nodes", good, edit(func(q *impl.Pat) { q.Nodes = nil }))
		checkBroken(t, "an unknown kind", good, edit(func(q *impl.Pat) { q.Nodes[0].Kind = 0 }))
		checkBroken(t, "a node left over", good, edit(func(q *impl.Pat) { q.Nodes = append(q.Nodes, impl.PNode{Kind: impl.PWild}) }))
		checkBroken(t, "a child too many", good, edit(func(q *impl.Pat) { q.Nodes[0].Kids = append(q.Nodes[0].Kids, 1) }))
		checkBroken(t, "a wrong number", good, edit(func(q *impl.Pat) { q.Nodes[0].N = 1 }))
		checkKept(t, "a wild", good, edit(func(q *impl.Pat) { q.Nodes = []impl.PNode{{Kind: impl.PWild}} }))
	}
	checkBroken(t, "an arm without a pattern", good, func(p *impl.Program) { p.Nodes[1].Pats = p.Nodes[1].Pats[:2] })
	checkBroken(t, "arms without patterns", good, func(p *impl.Program) { p.Nodes[1].Pats = nil })
	checkBroken(t, "a pattern without an arm", good, func(p *impl.Program) {
		p.Nodes[1].Pats = append(p.Nodes[1].Pats, impl.Pat{Nodes: []impl.PNode{{Kind: impl.PWild}}})
	})
	checkBroken(t, "a name twice", good, func(p *impl.Program) { p.Nodes[1].Pats[0].Nodes[2] = impl.PNode{Kind: impl.PVar, S: "x"} })
	checkKept(t, "a name in each of two patterns", good, func(p *impl.Program) { p.Nodes[1].Pats[2].Nodes[0].S = "x" })
}

func TestTypesOfPrograms(t *testing.T) {
	good := parsed(t, "type t = A | B of int; type 'a u = C of 'a * 'a | D | E of (u -> 'a) ref; type ('a, 'b) v = F of 'b * 'a; ()")
	for i := range good.Types {
		edit := func(change func(d *impl.Type)) func(p *impl.Program) {
			return func(p *impl.Program) { change(&p.Types[i]) }
		}
		for _, s := range badNames() {
			checkBroken(t, "a type with the name "+s, good, edit(func(d *impl.Type) { d.Name = s }))
		}
		for _, s := range []string{"x", "abcdefghijkl", "int", "list", "a_1"} {
			checkKept(t, "a type with the name "+s, good, edit(func(d *impl.Type) { d.Name = s }))
		}
		for _, n := range append([]int{3, 4}, farNumbers...) {
			checkBroken(t, "parameters out of range", good, edit(func(d *impl.Type) { d.Params = n }))
		}
		checkBroken(t, "no constructors", good, edit(func(d *impl.Type) { d.Cons = nil }))
		checkKept(t, "MaxCons constructors", good, edit(func(d *impl.Type) { d.Cons = slices.Repeat(d.Cons[:1], impl.MaxCons) }))
		checkBroken(t, "a constructor too many", good, edit(func(d *impl.Type) { d.Cons = slices.Repeat(d.Cons[:1], impl.MaxCons+1) }))
		for j := range good.Types[i].Cons {
			for _, s := range append(badCons(), "::") {
				checkBroken(t, "a constructor "+s, good, edit(func(d *impl.Type) { d.Cons[j].Name = s }))
			}
			checkKept(t, "a constructor A", good, edit(func(d *impl.Type) { d.Cons[j].Name = "A" }))
			checkConstructor(t, good, i, j)
		}
	}
	checkKept(t, "the same type twice", good, func(p *impl.Program) { p.Types[1] = p.Types[0] })
}

// checkConstructor changes the argument of one constructor.
func checkConstructor(t *testing.T, good impl.Program, i int, j int) {
	t.Helper()
	edit := func(has bool, items ...impl.TyItem) func(p *impl.Program) {
		return func(p *impl.Program) { p.Types[i].Cons[j].Has, p.Types[i].Cons[j].Arg = has, tyOf(items...) }
	}
	params := good.Types[i].Params
	checkKept(t, "no argument", good, edit(false))
	checkKept(t, "an argument", good, edit(true, tyCon("int", 0)))
	checkBroken(t, "a Has without a type", good, edit(true))
	checkBroken(t, "a type without Has", good, edit(false, tyCon("int", 0)))
	checkBroken(t, "a type that ends too early", good, edit(true, tyCon("list", 1)))
	checkBroken(t, "a type with a rest", good, edit(true, tyCon("int", 0), tyCon("int", 0)))
	checkBroken(t, "a constructor that is no type", good, edit(true, tyCon("A", 0)))
	for v := range 12 {
		check := checkBroken
		if v < params {
			check = checkKept
		}
		what := strconv.Itoa(params) + " parameters and variable " + strconv.Itoa(v)
		check(t, what, good, edit(true, tyVar(v)))
		check(t, what, good, edit(true, tyCon("*", 2), tyCon("int", 0), tyVar(v)))
		check(t, what, good, edit(true, tyCon("list", 1), tyCon("*", 2), tyVar(v), tyCon("int", 0)))
	}
	checkBroken(t, "variable 9999", good, edit(true, tyVar(9999)))
	checkBroken(t, "variable -1", good, edit(true, tyVar(-1)))
	lists := append(slices.Repeat([]impl.TyItem{tyCon("list", 1)}, impl.MaxItems-1), tyCon("int", 0))
	checkKept(t, "MaxItems items", good, edit(true, lists...))
	checkBroken(t, "an item too many", good, edit(true, append([]impl.TyItem{tyCon("list", 1)}, lists...)...))
}

func TestMaxTypes(t *testing.T) {
	good := parsed(t, strings.Repeat("type t = A of int; ", impl.MaxTypes)+"()")
	checkKept(t, "MaxTypes types", good, func(*impl.Program) {})
	checkKept(t, "no types", good, func(p *impl.Program) { p.Types = nil })
	checkBroken(t, "a type too many", good, func(p *impl.Program) { p.Types = append(p.Types, p.Types[0]) })
	checkBroken(t, "a million types", good, func(p *impl.Program) { p.Types = slices.Repeat(p.Types[:1], 1000000) })
}

// seqs has n nodes: ESeqs, each in the second child of another, and a last
// EGet for an even n.
func seqs(n int) impl.Program {
	d := node(impl.EUnit, "")
	if n%2 == 0 {
		d = node(impl.EGet, "", d)
	}
	for range (n - 1) / 2 {
		d = node(impl.ESeq, "", node(impl.EUnit, ""), d)
	}
	return impl.Program{Nodes: d.nodes(nil)}
}

func TestProgramMaxNodes(t *testing.T) {
	for _, n := range []int{1, 2, 3, 4, impl.MaxNodes - 1, impl.MaxNodes} {
		p := seqs(n)
		if len(p.Nodes) != n {
			t.Fatalf("%d nodes, not %d", len(p.Nodes), n)
		}
		checkKept(t, strconv.Itoa(n)+" nodes", p, func(*impl.Program) {})
	}
	good := seqs(impl.MaxNodes)
	for _, n := range []int{1, 2, 400, 100000} {
		checkNoProgram(t, "nodes too many", seqs(impl.MaxNodes+n), good)
	}
	deep := impl.Program{}
	for i := range 1000000 {
		deep.Nodes = append(deep.Nodes, impl.Node{Kind: impl.EGet, Kids: []int{i + 1}})
	}
	deep.Nodes = append(deep.Nodes, impl.Node{Kind: impl.EUnit})
	checkNoProgram(t, "a deep program", deep, good)
	checkBroken(t, "no nodes", good, func(p *impl.Program) { p.Nodes = nil })
	checkBroken(t, "a million children", good, func(p *impl.Program) { p.Nodes[0].Kids = slices.Repeat([]int{1}, 1000000) })
	checkNoProgram(t, "nothing", impl.Program{}, good)
	checkNoProgram(t, "only types", impl.Program{Types: parsed(t, "type t = A; ()").Types}, good)
}

// TestLargePrograms: every arm may have a pattern of MaxNodes nodes.
func TestLargePrograms(t *testing.T) {
	long := impl.Pat{}
	for len(long.Nodes) < impl.MaxNodes-2 {
		at := len(long.Nodes)
		long.Nodes = append(long.Nodes, pnode(impl.PPair, 0, "", at+1, at+2), pnode(impl.PVar, 0, "v"+strconv.Itoa(at)))
	}
	at := len(long.Nodes)
	long.Nodes = append(long.Nodes, pnode(impl.PCon, 0, "A", at+1), pnode(impl.PWild, 0, ""))
	p := impl.Program{Nodes: []impl.Node{{Kind: impl.EMatch, Kids: []int{1}}, {Kind: impl.EUnit}}}
	want := []string{}
	for i := 2; i < impl.MaxNodes; i++ {
		p.Nodes[0].Kids = append(p.Nodes[0].Kids, i)
		p.Nodes[0].Pats = append(p.Nodes[0].Pats, long)
		p.Nodes = append(p.Nodes, impl.Node{Kind: impl.EInt, N: i})
		want = append(want, impl.PrintPat(long)+" -> "+strconv.Itoa(i))
	}
	if got := impl.PrintProgram(p); got != "(match () with "+strings.Join(want, " | ")+" end)" {
		t.Errorf("a large program is printed as %s", brief(got))
	}
	checkBroken(t, "a name twice in the last pattern", p, func(p *impl.Program) {
		q := p.Nodes[0].Pats[impl.MaxNodes-3]
		q.Nodes[impl.MaxNodes-1] = q.Nodes[1]
	})
}
