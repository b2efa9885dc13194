package tests

import (
	"math"
	"slices"
	"testing"

	"loop.example/g00395/impl"
)

// foldLeaves are literals, and names that may be bound.
func foldLeaves() []*draft {
	leaf := func(kind int, n int, s string) *draft { return &draft{Node: impl.Node{Kind: kind, N: n, S: s}} }
	return []*draft{leaf(impl.EInt, 0, ""), leaf(impl.EInt, 2, ""), leaf(impl.EStr, 0, "x"), leaf(impl.EUnit, 0, ""), leaf(impl.ECon, 0, "true"), leaf(impl.ECon, 0, "false"), leaf(impl.EVar, 0, "x"), leaf(impl.EVar, 0, "print")}
}

// foldExprs are all expressions of so many nodes of the forms that matter for
// folding.
func foldExprs(most int) [][]*draft {
	bySize := [][]*draft{nil, foldLeaves()}
	for size := 2; size <= most; size++ {
		list := []*draft{}
		for _, a := range bySize[size-1] {
			list = append(list, node(impl.EFun, "x", a), node(impl.EGet, "", a), node(impl.ERaise, "", a))
		}
		for first := 1; first < size-1; first++ {
			for _, a := range bySize[first] {
				for _, b := range bySize[size-1-first] {
					list = append(list, foldParts(a, b)...)
				}
			}
		}
		for _, a := range bySize[max(0, size-3)] {
			for _, b := range foldLeaves() {
				for _, c := range foldLeaves() {
					list = append(list, node(impl.EIf, "", a, b, c))
				}
			}
		}
		bySize = append(bySize, list)
	}
	return bySize
}

// foldParts are the forms with two children.
func foldParts(a *draft, b *draft) []*draft {
	match := node(impl.EMatch, "", a)
	armDraft(&patDraft{PNode: pnode(impl.PVar, 0, "x")}, b, match)
	list := []*draft{
		node(impl.EApp, "", a, b), node(impl.ELet, "x", a, b), node(impl.ELet, "y", a, b), node(impl.ERec, "x", node(impl.EFun, "y", a), b), node(impl.ERec, "y", node(impl.EFun, "x", a), b),
		node(impl.EPair, "", a, b), node(impl.ESeq, "", a, b), node(impl.ETry, "x", a, b), match,
	}
	for _, sign := range []string{"-", "/", "<", "=", "^"} {
		list = append(list, node(impl.EPrim, sign, a, b))
	}
	return list
}

// foldTally counts what became of programs.
type foldTally struct {
	kinds                           map[int]int
	changed, faster, typed, general int
}

// checkFoldAll checks a folded program, its evaluations and its type.
func (c *foldTally) checkFoldAll(t *testing.T, p impl.Program, inputs []int, limits ...int) impl.Program {
	t.Helper()
	q := folded(t, p)
	if len(q.Nodes) < len(p.Nodes) {
		c.changed++
	}
	for _, most := range limits {
		checkFoldRuns(t, p, q, inputs, most)
	}
	o, saved := checkFoldRuns(t, p, q, inputs, impl.MaxSteps)
	if c.kinds == nil {
		c.kinds = map[int]int{}
	}
	c.kinds[o.Kind]++
	if saved > 0 {
		c.faster++
	}
	typed, general := checkFoldTy(t, p, q)
	if typed {
		c.typed++
	}
	if general {
		c.general++
	}
	return q
}

// TestFoldAllSmallPrograms compares Fold with the second one for all small
// expressions, and checks that they end as before. Every node has another
// offset.
func TestFoldAllSmallPrograms(t *testing.T) {
	c := foldTally{}
	bySize := foldExprs(4)
	for _, list := range bySize {
		for i, d := range list {
			p := impl.Program{Nodes: d.nodes(nil)}
			for at := range p.Nodes {
				p.Nodes[at].At = 10 + at
			}
			c.checkFoldAll(t, p, nil, i%5)
		}
	}
	if c.changed < 900 || c.faster < 800 || c.typed < 500 || c.kinds[impl.OutDone] < 1000 || c.kinds[impl.OutBad] < 1000 {
		t.Errorf("there were %+v of all %d", c, len(bySize[4]))
	}
}

// TestFoldPairsOfSmallPrograms combines small expressions at random.
func TestFoldPairsOfSmallPrograms(t *testing.T) {
	c := foldTally{}
	small := slices.Concat(foldExprs(4)[:4]...)
	for seed := range uint32(20000) {
		g := &lot{seed: seed}
		some := func() *draft { return small[g.next(len(small))] }
		d := some()
		for range 1 + g.next(4) {
			list := append(foldParts(d, some()), foldParts(some(), d)...)
			list = append(list, node(impl.EIf, "", d, some(), some()), node(impl.EIf, "", some(), d, some()), node(impl.EFun, "x", d))
			d = list[g.next(len(list))]
		}
		c.checkFoldAll(t, impl.Program{Nodes: node(impl.ELet, "x", one(), d).nodes(nil)}, g.someInputs(), g.next(20))
	}
	if c.changed < 5000 || c.faster < 5000 || c.typed < 500 {
		t.Errorf("there were %+v", c)
	}
}

// TestFoldMadePrograms has programs that were made for a type.
func TestFoldMadePrograms(t *testing.T) {
	c := foldTally{}
	for seed := range uint32(2000) {
		m := newTeller(seed)
		m.tells += m.next(60)
		p, code, _ := impl.Parse(m.program(80))
		if code != 0 {
			continue
		}
		c.checkFoldAll(t, p, m.someInputs(), m.next(10), m.next(100), m.next(20000))
	}
	if c.changed < 500 || c.faster < 300 || c.typed < 1000 || c.general < 10 || c.kinds[impl.OutBad] > 0 {
		t.Errorf("there were %+v", c)
	}
}

// TestFoldMistakes has programs with a few mistakes.
func TestFoldMistakes(t *testing.T) {
	c := foldTally{}
	for seed := range uint32(4000) {
		m := newTeller(seed)
		m.tells += m.next(60)
		m.mistakes = 10 + 30*int(seed%4)
		p, code, _ := impl.Parse(m.program(60))
		if code != 0 {
			continue
		}
		c.checkFoldAll(t, p, m.someInputs(), m.next(30))
	}
	if c.changed < 500 || c.typed < 500 || c.typed > 3500 || c.kinds[impl.OutBad] < 200 || c.kinds[impl.OutRaised] < 500 {
		t.Errorf("there were %+v", c)
	}
}

// TestFoldChangedPrograms has programs of which something was changed, so that
// many are not valid.
func TestFoldChangedPrograms(t *testing.T) {
	c, broken := foldTally{}, 0
	for seed := range uint32(6000) {
		g := &lot{seed: seed}
		p := g.whole(g.expr(1 + g.next(30))).program()
		for range 1 + g.next(2) {
			g.changeProgram(&p)
		}
		if !impl.ProgramOk(p) {
			broken++
			folded(t, p)
			continue
		}
		c.checkFoldAll(t, p, g.someInputs(), g.next(30))
	}
	if broken < 1000 || c.changed < 300 {
		t.Errorf("there were %+v, and %d not valid", c, broken)
	}
}

// TestFoldLargeTypes has programs whose types are nearly too large.
func TestFoldLargeTypes(t *testing.T) {
	c := foldTally{}
	for seed := range uint32(100) {
		g := &lot{seed: seed}
		p, added := g.thickened(g.growing(t))
		if added > 0 {
			c.checkFoldAll(t, p, nil)
		}
	}
	if c.changed < 30 || c.typed < 10 {
		t.Errorf("there were %+v", c)
	}
}

// thick puts something around an expression that is folded away again. What is
// never evaluated may have any type.
func (g *lot) thick(d *draft) *draft {
	never := node(impl.ERaise, "", node(impl.EApp, "", variable("x"), node(impl.EPrim, "+", one(), node(impl.EPrim, "-", one(), one()))))
	never = node(impl.ELet, "x", node(impl.EFun, "x", node(impl.EInt, "")), never)
	yes := []*draft{node(impl.ECon, "true"), node(impl.EPrim, "<", node(impl.EInt, ""), one()), node(impl.EPrim, "=", one(), node(impl.EPrim, "/", one(), one()))}
	no := []*draft{node(impl.ECon, "false"), node(impl.EPrim, "<>", one(), one()), node(impl.EIf, "", node(impl.ECon, "true"), node(impl.ECon, "false"), node(impl.ECon, "true"))}
	plain := []*draft{one(), node(impl.EStr, "x"), node(impl.EUnit, ""), node(impl.ECon, "[]"), node(impl.EFun, "x", variable("x")), node(impl.EPrim, "^", node(impl.EStr, "a"), node(impl.EStr, "b"))}
	var made *draft
	switch g.next(4) {
	case 0:
		made = node(impl.EIf, "", yes[g.next(3)], d, never)
	case 1:
		made = node(impl.EIf, "", no[g.next(3)], never, d)
	case 2:
		made = node(impl.ESeq, "", []*draft{node(impl.EUnit, ""), node(impl.ELet, "x", one(), node(impl.EUnit, ""))}[g.next(2)], d)
	default:
		made = node(impl.ELet, "unused", plain[g.next(6)], d)
	}
	made.At = g.next(1000)
	return made
}

// thickened puts such things around some parts of a program, and returns how
// many.
func (g *lot) thickened(p impl.Program) (impl.Program, int) {
	kept := map[int]bool{}
	for _, n := range p.Nodes {
		if n.Kind == impl.ERec || n.Kind == impl.ECon && n.S == "::" {
			kept[n.Kids[0]] = true
		}
	}
	room, added := impl.MaxNodes-len(p.Nodes), 0
	d := draftAt(p, 0, func(at int, d *draft) *draft {
		d.At = p.Nodes[at].At
		if !kept[at] && g.next(4) == 0 && room >= 30 {
			room, added = room-15, added+1
			return g.thick(d)
		}
		return d
	})
	return impl.Program{Types: p.Types, Nodes: d.nodes(nil)}, added
}

// TestFoldThickened: what was put around parts of a program goes away, so that
// it is folded to the same program, with the same offsets, and ends in the same
// way as the original.
func TestFoldThickened(t *testing.T) {
	c, total := foldTally{}, 0
	for seed := range uint32(1500) {
		m := newTeller(seed)
		p, code, _ := impl.Parse(m.program(40))
		if code != 0 {
			continue
		}
		thick, added := m.thickened(p)
		total += added
		inputs := m.someInputs()
		q := c.checkFoldAll(t, thick, inputs, m.next(100))
		if got, want := shown(t, q), shown(t, folded(t, p)); got != want {
			t.Fatalf("%s is folded to\n%s, not\n%s", brief(impl.PrintProgram(thick)), got, want)
		}
		a, b := impl.Eval(p, inputs, impl.MaxSteps), impl.Eval(thick, inputs, impl.MaxSteps)
		if impl.Ends(b) && briefOutcome(a) != briefOutcome(b) {
			t.Fatalf("the outcome is %s, not %s, for %s", outcomeText(b), outcomeText(a), brief(impl.PrintProgram(thick)))
		}
	}
	if total < 5000 || c.typed < 200 || c.faster < 1000 {
		t.Errorf("there were %+v, %d were added", c, total)
	}
}

// TestFoldMoreGeneral has programs whose folded forms have more general types:
// a constraint is gone, or the name is bound to a value.
func TestFoldMoreGeneral(t *testing.T) {
	for _, e := range [][3]string{
		{"if true then [] else 1 :: []", "(int) list", "('a) list"},
		{"fun x -> if true then x else 1", "(int -> int)", "('a -> 'a)"},
		{"fun x -> let y = fun z -> x + z in x", "(int -> int)", "('a -> 'a)"},
		{"let f = if true then fun x -> x else fun x -> x in (f 1, f)", "(int * (int -> int))", "(int * ('a -> 'a))"},
		{"let f = ((); fun x -> x) in (f 1, f)", "(int * (int -> int))", "(int * ('a -> 'a))"},
		{"let f = let unused = 1 in fun x -> x in (f 1, f)", "(int * (int -> int))", "(int * ('a -> 'a))"},
		{"fun x -> let f = if 1 < 2 then fun y -> y else x in (x, f)", "(('a -> 'a) -> (('a -> 'a) * ('a -> 'a)))", "('a -> ('a * ('b -> 'b)))"},
		{"fun x -> fun y -> if false then x else y", "('a -> ('a -> 'a))", "('a -> ('b -> 'b))"},
		{"(1 + 2, \"a\" ^ \"b\")", "(int * string)", "(int * string)"},
		{"fun x -> (x, if 1 < 2 then () else ())", "('a -> ('a * unit))", "('a -> ('a * unit))"},
	} {
		p := parsed(t, e[0])
		q := folded(t, p)
		first, _, _ := impl.Infer(p)
		second, _, _ := impl.Infer(q)
		if impl.PrintTy(first) != e[1] || impl.PrintTy(second) != e[2] || !impl.Fits(second, first) {
			t.Errorf("%s has type %s, folded %s", e[0], impl.PrintTy(first), impl.PrintTy(second))
		}
	}
}

// TestFoldRuns has all limits for some programs that print.
func TestFoldRuns(t *testing.T) {
	for _, text := range []string{
		everyFold, everyRun, "let rec f x = if x < 1 + 1 then (); print x else f (x - (2 - 1)) in f 5", "try (print (1 + 2); print (7 / 0)) with e -> (print (2 + e); raise (e * (1 + 1))) end",
		"let rec f x = (print (x + 1 * 2); f (x + 1)) in f 0", "(let unused = fun x -> raise 1 in print (read ())); print (if true then read () else 1); read ()", "print 1; (1 + 1); print 2", "say (\"a\" ^ \"b\"); raise (2 + 3)",
	} {
		p := parsed(t, text)
		q := folded(t, p)
		for most := range 120 {
			checkFoldRuns(t, p, q, []int{7, math.MaxInt}, most)
		}
		if _, saved := checkFoldRuns(t, p, q, []int{7, math.MaxInt}, impl.MaxSteps); saved <= 0 && text[:15] != "let rec f x = (" {
			t.Errorf("%s takes %d steps less", brief(text), saved)
		}
	}
}
