package tests

import (
	"math"
	"reflect"
	"slices"
	"testing"

	"loop.example/g00395/impl"
)

// brokenPrograms are not valid, each for one reason. All have a node that is
// to be folded, or a free name x.
func brokenPrograms(t *testing.T) []impl.Program {
	t.Helper()
	list := []impl.Program{{}, {Nodes: []impl.Node{}}, {Types: parsed(t, "type t = A; 1").Types}, {Nodes: refs(impl.MaxNodes, variable("x")).nodes(nil)}}
	change := func(text string, edit func(p *impl.Program)) {
		p := cloned(parsed(t, text))
		edit(&p)
		if impl.ProgramOk(p) {
			t.Errorf("%s is still valid", text)
		}
		list = append(list, p)
	}
	for at := range 5 {
		change("(1 + 2, x)", func(p *impl.Program) { p.Nodes[at].Kind = 20 })
		change("(1 + 2, x)", func(p *impl.Program) { p.Nodes[at].At = -1 })
		change("(1 + 2, x)", func(p *impl.Program) { p.Nodes[at].N = -1 })
		change("(1 + 2, x)", func(p *impl.Program) { p.Nodes[at].Kids = append(p.Nodes[at].Kids, 4) })
		change("(1 + 2, x)", func(p *impl.Program) { p.Nodes[at].Pats = []impl.Pat{{Nodes: []impl.PNode{{Kind: impl.PWild}}}} })
	}
	change("1 + 2", func(p *impl.Program) { p.Nodes[0].S = "&" })
	change("1 + 2", func(p *impl.Program) { p.Nodes[2].N = impl.MaxInt + 1 })
	change("1 + 2", func(p *impl.Program) { p.Nodes[0].Kids = []int{1} })
	change("1 + 2", func(p *impl.Program) { p.Nodes[0].Kids = []int{2, 1} })
	change("1 + 2", func(p *impl.Program) { p.Nodes[0].Kids = []int{1, 1} })
	change("1 + 2", func(p *impl.Program) { p.Nodes[0].Kids = []int{0, 1} })
	change("1 + 2", func(p *impl.Program) { p.Nodes[0].Kids = []int{1, 3} })
	change("1 + 2", func(p *impl.Program) { p.Nodes = p.Nodes[:2] })
	change("1 + 2", func(p *impl.Program) { p.Nodes = append(p.Nodes, impl.Node{Kind: impl.EVar, S: "x"}) })
	change("if true then x else 2", func(p *impl.Program) { p.Nodes[0].Kids = p.Nodes[0].Kids[:2] })
	change("if true then 1 else x", func(p *impl.Program) { p.Nodes[3].S = "X" })
	change("let y = 1 in x", func(p *impl.Program) { p.Nodes[0].S = "" })
	change("let rec f y = 1 in x", func(p *impl.Program) { p.Nodes[1] = impl.Node{Kind: impl.ERef, Kids: []int{2}} })
	change("x :: []", func(p *impl.Program) { p.Nodes[1].Kind = impl.EApp })
	change("match x with 1 -> 1 + 2 end", func(p *impl.Program) { p.Nodes[0].Pats[0].Nodes[0].N = impl.MinInt })
	change("match x with 1 -> 1 + 2 end", func(p *impl.Program) { p.Nodes[0].Pats = nil })
	change("match x with (y, z) -> 1 + 2 end", func(p *impl.Program) { p.Nodes[0].Pats[0].Nodes[2].S = "y" })
	change("type t = A; (1 + 2, x)", func(p *impl.Program) { p.Types[0].Name = "T" })
	change("type t = A of int; (1 + 2, x)", func(p *impl.Program) { p.Types[0].Cons[0].Arg.Items = nil })
	return list
}

// TestFoldBadPrograms: there is nothing for a program that is not valid,
// whatever could be folded in it.
func TestFoldBadPrograms(t *testing.T) {
	for i, p := range brokenPrograms(t) {
		q := impl.Fold(p)
		if q.Types != nil || q.Nodes != nil {
			t.Errorf("the broken program %d is folded to %d types and %d nodes", i, len(q.Types), len(q.Nodes))
		}
		if weight := impl.Weight(p); weight != -1 {
			t.Errorf("the broken program %d has Weight %d", i, weight)
		}
	}
}

func TestWeight(t *testing.T) {
	for _, e := range []struct {
		text string
		want int
	}{{"1", 1}, {"x", 1}, {"1 + 2", 3}, {"let rec f x = x in f 1", 6}, {"match 1 with (x, y) -> x | _ -> 2 end", 4}, {"type t = A | B of int; 1", 1}, {"1 :: []", 4}, {"- 1", 3}, {"if 1 then 2 else 3", 4}} {
		if got := impl.Weight(parsed(t, e.text)); got != e.want {
			t.Errorf("Weight is %d, not %d, for %s", got, e.want, e.text)
		}
	}
	for _, count := range []int{1, 2, impl.MaxNodes - 1, impl.MaxNodes} {
		if got := impl.Weight(impl.Program{Nodes: refs(count-1, one()).nodes(nil)}); got != count {
			t.Errorf("Weight is %d for %d nodes", got, count)
		}
	}
	if got := impl.Weight(impl.Program{Nodes: refs(impl.MaxNodes, one()).nodes(nil)}); got != -1 {
		t.Errorf("Weight is %d for more than MaxNodes nodes", got)
	}
}

// TestFoldKeepsTheRest: what cannot be folded stays as it is, with all fields,
// patterns and types, in programs of every form and with any offsets.
func TestFoldKeepsTheRest(t *testing.T) {
	checkNoFold(t, everyForm)
	p := moved(cloned(parsed(t, everyForm)), func(at int) int { return math.MaxInt - at })
	if got := folded(t, p); !impl.SameProgram(got, p) || shown(t, got) != shown(t, p) {
		t.Errorf("every form is folded to %s", impl.PrintProgram(got))
	}
	const types = "type t = A | B of int; type 'a u = C of 'a ref list | D; type ('p, 'q) w = E of ('q -> 'p) * (int, 'p) w; "
	p, q := parsed(t, types+"(if true then A else B 1, match 1 + 2 with -3 -> C [] | (B x, _) -> D | _ -> E y end)"), parsed(t, types+"(A, match 3 with -3 -> C [] | (B x, _) -> D | _ -> E y end)")
	if got := folded(t, p); !impl.SameProgram(got, q) || !reflect.DeepEqual(got.Types, p.Types) {
		t.Errorf("the program is folded to %s", impl.PrintProgram(got))
	}
	if got := impl.PrintProgram(impl.Fold(parsed(t, types+"1 + 1"))); got != impl.PrintProgram(parsed(t, types+"2")) {
		t.Errorf("the types become %s", got)
	}
}

// TestFoldWithoutTypes: Infer may refuse the program, which ends as before.
func TestFoldWithoutTypes(t *testing.T) {
	for _, e := range [][2]string{
		{"type t = A; type t = B; 1 + 2", "type t = A; type t = B; 3"}, {"type int = A of u; if 1 < 2 then 1 else ()", "type int = A of u; 1"}, {"1 1 + (2 + 3)", "((1 1) + 5)"}, {"if true then 1 else ()", "1"}, {"let x = Q in 1", "1"},
		{"let x = fun y -> y y in 1 + 2", "3"}, {"(); 1 2", "(1 2)"}, {"1 + true", "(1 + true)"}, {"if 1 + 1 then 2 else 3", "(if 2 then 2 else 3)"}, {"1 + 1; 2", "(2; 2)"}, {"if q then 1 + 1 else r", "(if q then 2 else r)"},
		{"let x = q in 1", "(let x = q in 1)"}, {"print (if true then true else 1)", "(print true)"}, {"match 1 with () -> 1 + 1 | A -> q end", "(match 1 with () -> 2 | A -> q end)"},
	} {
		if _, code, _ := impl.Infer(parsed(t, e[0])); code == 0 {
			t.Errorf("%s has a type", e[0])
		}
		checkFold(t, e[0], e[1])
	}
}

// checkFoldWhole checks what an expression is folded to.
func checkFoldWhole(t *testing.T, d *draft, want *draft) {
	t.Helper()
	p := impl.Program{Nodes: d.nodes(nil)}
	q := folded(t, p)
	if got := shown(t, q); got != shown(t, impl.Program{Nodes: want.nodes(nil)}) {
		t.Errorf("%s is folded to %s", brief(impl.PrintProgram(p)), brief(got))
	}
	checkFoldRuns(t, p, q, nil, impl.MaxSteps)
}

// TestFoldDeep has MaxNodes nodes, or nearly, most of which are folded or none.
func TestFoldDeep(t *testing.T) {
	sum, left, units, lets, used, ifs := one(), one(), one(), one(), variable("x"), one()
	for range (impl.MaxNodes - 1) / 2 {
		sum = node(impl.EPrim, "+", one(), sum)
		left = node(impl.EPrim, "-", left, node(impl.EInt, ""))
		units = node(impl.ESeq, "", node(impl.EUnit, ""), units)
		lets = node(impl.ELet, "x", one(), lets)
	}
	for range (impl.MaxNodes - 1) / 3 {
		ifs = node(impl.EIf, "", node(impl.ECon, "false"), one(), ifs)
		used = node(impl.ELet, "y", node(impl.EFun, "x", used), variable("y"))
	}
	number := func(n int) *draft { return &draft{Node: impl.Node{Kind: impl.EInt, N: n}} }
	checkFoldWhole(t, sum, number(300))
	checkFoldWhole(t, left, one())
	checkFoldWhole(t, units, one())
	checkFoldWhole(t, lets, one())
	checkFoldWhole(t, ifs, one())
	checkFoldWhole(t, refs(impl.MaxNodes-1, one()), refs(impl.MaxNodes-1, one()))
	checkFoldWhole(t, used, used)
}

// TestFoldManyNames has many names with large patterns around them, each of
// which is used only at the end.
func TestFoldManyNames(t *testing.T) {
	d := one()
	for i := range 100 {
		d = node(impl.EPair, "", variable("v"+impl.NumText(i)), d)
	}
	match := node(impl.EMatch, "", one())
	for range 150 {
		armDraft(&patDraft{PNode: pnode(impl.PCon, 0, "::"), kids: []*patDraft{widePair(290)}}, one(), match)
	}
	d = node(impl.ESeq, "", match, d)
	for i := range 100 {
		d = node(impl.ELet, "v"+impl.NumText(i), one(), d)
	}
	p := impl.Program{Nodes: d.nodes(nil)}
	if got := folded(t, p); !impl.SameProgram(got, p) {
		t.Errorf("the program is folded to %s", brief(impl.PrintProgram(got)))
	}
}

// widePair is a pattern of n pairs that bind names.
func widePair(n int) *patDraft {
	name := func(i int) *patDraft { return &patDraft{PNode: pnode(impl.PVar, 0, "w"+impl.NumText(i))} }
	d := name(0)
	for i := range n {
		d = &patDraft{PNode: pnode(impl.PPair, 0, ""), kids: []*patDraft{name(i + 1), d}}
	}
	return d
}

// everyFold is a program in which every rule applies, and some nodes stay.
const everyFold = `type 'a t = A | B of 'a * int list; let x = 1 + 2 in let r = ref (if true then (x, "a" ^ "b") else (0, "")) in let unused = fun y -> r in
	(); match !r with (3, s) -> say s; B (4 / 2, 1 :: []) | (_, 3 :: y :: _) -> A | _ -> if 1 < 0 then A else B (x, []) end`

// spoilProgram changes everything in a program, up to the capacities.
func spoilProgram(p impl.Program) {
	for i := range p.Types[:cap(p.Types)] {
		d := &p.Types[:cap(p.Types)][i]
		for j := range d.Cons[:cap(d.Cons)] {
			c := &d.Cons[:cap(d.Cons)][j]
			spoil(c.Arg)
			*c = impl.Con{Name: "Spoilt"}
		}
		*d = impl.Type{Name: "spoilt"}
	}
	for i := range p.Nodes[:cap(p.Nodes)] {
		n := &p.Nodes[:cap(p.Nodes)][i]
		spoilNumbers(n.Kids)
		for j := range n.Pats[:cap(n.Pats)] {
			q := &n.Pats[:cap(n.Pats)][j]
			for k := range q.Nodes[:cap(q.Nodes)] {
				spoilNumbers(q.Nodes[:cap(q.Nodes)][k].Kids)
				q.Nodes[:cap(q.Nodes)][k] = impl.PNode{Kind: -1}
			}
			*q = impl.Pat{}
		}
		*n = impl.Node{Kind: -1}
	}
}

func spoilNumbers(list []int) {
	for i := range list[:cap(list)] {
		list[:cap(list)][i] = -7
	}
}

// TestFoldLeavesItsArgument: the argument is not changed, and shares nothing
// with the result.
func TestFoldLeavesItsArgument(t *testing.T) {
	for _, text := range []string{everyFold, everyForm, "x", "1 + 2", "match 1 with A (x, 2) -> () end", "type t = A of int; A 1"} {
		p := roomyProgram(parsed(t, text))
		before := stretched(p)
		want := shown(t, impl.Fold(p))
		for range 2 {
			q := impl.Fold(p)
			if shown(t, q) != want {
				t.Errorf("the results differ for %s", brief(text))
			}
			impl.Weight(p)
			for at := range p.Nodes {
				impl.FreeIn(p, at, "x")
			}
			spoilProgram(q)
			if !reflect.DeepEqual(stretched(p), before) {
				t.Fatalf("the argument has changed: %s", brief(text))
			}
		}
		q := impl.Fold(p)
		spoilProgram(p)
		if shown(t, q) != want {
			t.Errorf("the result has changed with the argument: %s", brief(text))
		}
	}
}

// TestFoldSharesNothing: no two slices of a result share memory, not even
// behind their ends.
func TestFoldSharesNothing(t *testing.T) {
	want := shown(t, impl.Fold(parsed(t, everyFold)))
	q := impl.Fold(parsed(t, everyFold))
	whole := cloned(q)
	for i := range q.Nodes {
		spoilNumbers(q.Nodes[i].Kids)
		q.Nodes[i].Kids = slices.Clone(whole.Nodes[i].Kids)
		for j, pat := range q.Nodes[i].Pats {
			for k := range pat.Nodes {
				spoilNumbers(pat.Nodes[k].Kids)
				pat.Nodes[k].Kids = slices.Clone(whole.Nodes[i].Pats[j].Nodes[k].Kids)
			}
			clear(pat.Nodes[len(pat.Nodes):cap(pat.Nodes)])
		}
	}
	for i, d := range q.Types {
		for j, c := range d.Cons {
			spoil(c.Arg)
			d.Cons[j].Arg.Items = slices.Clone(whole.Types[i].Cons[j].Arg.Items)
		}
	}
	if got := shown(t, q); got != want {
		t.Errorf("the result has become %s", got)
	}
}

// TestFoldKeepsNothing: a result does not depend on the calls before it.
func TestFoldKeepsNothing(t *testing.T) {
	p, want := parsed(t, everyForm), shown(t, impl.Fold(parsed(t, everyForm)))
	for _, text := range []string{"1 + 2", "let x = 1 in 2", "fun x -> x", "1 1", "if true then 1 else 2"} {
		impl.Fold(parsed(t, text))
		impl.Fold(impl.Program{})
		if got := shown(t, impl.Fold(p)); got != want {
			t.Errorf("the result is %s after %s", got, text)
		}
	}
}
