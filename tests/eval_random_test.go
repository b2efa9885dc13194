package tests

import (
	"math"
	"slices"
	"testing"

	"loop.example/g00395/impl"
)

// newTeller is a maker of programs that write when their parts are evaluated.
func newTeller(seed uint32) *maker {
	m := newMaker(seed, 0)
	m.tells = 4
	return m
}

// program writes a program of a random type. Loops are told, too, since tell
// is a name that nothing hides.
func (m *maker) program(size int) string {
	return makerTypes + "let tell = print in " + m.expr(m.shape(1+m.next(5)), 5+m.next(size))
}

// someInputs are up to five inputs, not all of which are numbers.
func (g *lot) someInputs() []int {
	list := []int{}
	for range g.next(6) {
		list = append(list, []int{0, 1, 2, 5, -1, impl.MaxInt + 1, math.MinInt, math.MaxInt}[g.next(8)])
	}
	return list
}

// checkMoreSteps evaluates a program with several limits. With more steps, an
// evaluation has the same output and goes on; one that has ended stays the
// same. It returns the outcome with the greatest limit.
func checkMoreSteps(t *testing.T, p impl.Program, inputs []int, limits ...int) impl.Outcome {
	t.Helper()
	slices.Sort(limits)
	before := evaluated(t, p, inputs, 0)
	for _, most := range append(limits, impl.MaxSteps) {
		o := evaluated(t, p, inputs, most)
		if before.Kind != impl.OutSteps && !sameOutcome(before, o) || !beginsWith(o.Trace, before.Trace) || o.Steps < before.Steps {
			t.Fatalf("the outcome is %s with at most %d steps, and %s with less, for %s", outcomeText(o), most, outcomeText(before), brief(impl.PrintProgram(p)))
		}
		if o.Kind == impl.OutSteps && o.Steps != most || o.Steps > most {
			t.Fatalf("the outcome is %s with at most %d steps, for %s", outcomeText(o), most, brief(impl.PrintProgram(p)))
		}
		before = o
	}
	return before
}

// TestTypedProgramsAreNotBad: a program that was made for a type ends or runs
// out of steps.
func TestTypedProgramsAreNotBad(t *testing.T) {
	counts, lines := map[int]int{}, 0
	for seed := range uint32(4000) {
		m := newTeller(seed)
		p, code, _ := impl.Parse(m.program(80))
		if code != 0 {
			continue
		}
		if _, code, at := impl.Infer(p); code != 0 {
			t.Fatalf("Infer is %d and %d for %s", code, at, impl.PrintProgram(p))
		}
		o := checkMoreSteps(t, p, m.someInputs(), m.next(10), m.next(40), m.next(100), m.next(20000))
		counts[o.Kind]++
		lines += len(o.Trace)
		if o.Kind == impl.OutBad {
			t.Fatalf("the outcome is bad for %s", impl.PrintProgram(p))
		}
	}
	if counts[impl.OutDone] < 500 || counts[impl.OutRaised] < 500 || counts[impl.OutSteps] < 50 || lines < 10000 {
		t.Errorf("the kinds occur so many times: %v, there are %d lines", counts, lines)
	}
}

// TestProgramsWithMistakes compares Eval with the second evaluator for
// programs with a few mistakes. Those that have a type are not bad.
func TestProgramsWithMistakes(t *testing.T) {
	counts, typed := map[int]int{}, 0
	for seed := range uint32(8000) {
		m := newTeller(seed)
		m.mistakes = 10 + 30*int(seed%4)
		p, parseCode, _ := impl.Parse(m.program(60))
		if parseCode != 0 {
			continue
		}
		o := checkMoreSteps(t, p, m.someInputs(), m.next(30))
		_, code, _ := impl.Infer(p)
		if code == 0 {
			typed++
		}
		if code == 0 && o.Kind == impl.OutBad {
			t.Fatalf("the outcome is bad for %s", impl.PrintProgram(p))
		}
		counts[o.Kind]++
	}
	if counts[impl.OutDone] < 500 || counts[impl.OutRaised] < 500 || counts[impl.OutBad] < 500 || typed < 500 {
		t.Errorf("the kinds occur so many times: %v, there are %d types", counts, typed)
	}
}

// TestEvalChangedPrograms compares Eval with the second evaluator for programs
// of which one node was changed.
func TestEvalChangedPrograms(t *testing.T) {
	counts := map[int]int{}
	for seed := range uint32(4000) {
		m := newTeller(seed)
		p, code, _ := impl.Parse(m.program(60))
		if code != 0 {
			continue
		}
		for range 5 {
			q := cloned(p)
			m.changeProgram(&q)
			counts[evaluated(t, q, m.someInputs(), m.next(2000)).Kind]++
		}
	}
	for kind := range 5 {
		if counts[kind] < 100 {
			t.Errorf("the kinds occur so many times: %v", counts)
		}
	}
}

// TestEvalRandomForms compares Eval with the second evaluator for programs of
// any form, most of which are bad soon.
func TestEvalRandomForms(t *testing.T) {
	counts := map[int]int{}
	for seed := range uint32(20000) {
		g := &lot{seed: seed}
		d := g.expr(1 + g.next(30))
		for _, name := range []string{"x", "y", "f", "abcdefghijkl", "a_1"} {
			d = node(impl.ELet, name, g.expr(g.next(4)), d)
		}
		p := impl.Program{Nodes: d.nodes(nil)}
		if impl.ProgramOk(p) {
			counts[checkMoreSteps(t, p, g.someInputs(), g.next(20)).Kind]++
		}
	}
	if counts[impl.OutDone] < 200 || counts[impl.OutRaised] < 500 || counts[impl.OutBad] < 5000 {
		t.Errorf("the kinds occur so many times: %v", counts)
	}
}

// TestEvalAllSmallPrograms compares Eval with the second evaluator for all
// small expressions with a name x, of several values, and a function f. Those
// that have a type are not bad.
func TestEvalAllSmallPrograms(t *testing.T) {
	counts := map[int]int{}
	tell := func(kid *draft) *draft {
		return node(impl.ESeq, "", node(impl.EApp, "", variable("print"), one()), kid)
	}
	values := []*draft{one(), node(impl.ERef, "", one()), node(impl.EPair, "", one(), one()), node(impl.EFun, "x", tell(variable("x"))), node(impl.EUnit, "")}
	for _, list := range smallExprs(5) {
		for i, d := range list {
			whole := node(impl.ELet, "x", values[i%len(values)], node(impl.ELet, "f", node(impl.EFun, "y", tell(variable("x"))), d))
			p := impl.Program{Nodes: whole.nodes(nil)}
			o := evaluated(t, p, nil, 200)
			evaluated(t, p, nil, i%15)
			counts[o.Kind]++
			if o.Kind != impl.OutBad {
				continue
			}
			if _, code, _ := impl.Infer(p); code == 0 {
				t.Fatalf("the outcome is bad for %s", impl.PrintProgram(p))
			}
		}
	}
	if counts[impl.OutDone] < 5000 || counts[impl.OutRaised] < 1000 || counts[impl.OutBad] < 5000 {
		t.Errorf("the kinds occur so many times: %v", counts)
	}
}

// isFree reports whether an expression has a name that is not bound in it.
func isFree(p impl.Program, at int, name string) bool {
	n := p.Nodes[at]
	if n.Kind == impl.EVar {
		return n.S == name
	}
	for i, kid := range n.Kids {
		hidden := n.S == name && (n.Kind == impl.EFun || n.Kind == impl.ERec || (n.Kind == impl.ELet || n.Kind == impl.ETry) && i == 1)
		if n.Kind == impl.EMatch && i > 0 {
			hidden = slices.ContainsFunc(n.Pats[i-1].Nodes, func(m impl.PNode) bool { return m.Kind == impl.PVar && m.S == name })
		}
		if !hidden && isFree(p, kid, name) {
			return true
		}
	}
	return false
}

// draftAt is a draft of a part of a program, after a change of its parts.
func draftAt(p impl.Program, at int, change func(at int, d *draft) *draft) *draft {
	n := p.Nodes[at]
	d := &draft{Node: impl.Node{Kind: n.Kind, N: n.N, S: n.S}}
	for _, kid := range n.Kids {
		d.kids = append(d.kids, draftAt(p, kid, change))
	}
	for _, q := range n.Pats {
		d.pats = append(d.pats, patDraftAt(q, 0))
	}
	return change(at, d)
}

func patDraftAt(q impl.Pat, at int) *patDraft {
	n := q.Nodes[at]
	d := &patDraft{PNode: pnode(n.Kind, n.N, n.S)}
	for _, kid := range n.Kids {
		d.kids = append(d.kids, patDraftAt(q, kid))
	}
	return d
}

var someNames = []string{"x", "y", "z", "f", "g", "print", "say", "read", "size", "tell", "unused"}

// binders bind a name to something odd around an expression, with the number
// of steps that this takes.
func binders(name string, d *draft) ([]*draft, []int) {
	odd := node(impl.EStr, "odd")
	match := node(impl.EMatch, "", node(impl.EPair, "", odd, odd))
	pair := &patDraft{PNode: pnode(impl.PPair, 0, ""), kids: []*patDraft{{PNode: pnode(impl.PWild, 0, "")}, {PNode: pnode(impl.PVar, 0, name)}}}
	armDraft(pair, d, match)
	return []*draft{
		node(impl.ELet, name, odd, d), node(impl.EApp, "", node(impl.EFun, name, d), odd), node(impl.ERec, name, node(impl.EFun, "x", variable("x")), d),
		node(impl.ETry, name, node(impl.ERaise, "", one()), d), match,
	}, []int{2, 3, 2, 3, 4}
}

// TestUnusedNames: a name that is not free has no influence on a program.
func TestUnusedNames(t *testing.T) {
	counts := map[int]int{}
	same := func(_ int, d *draft) *draft { return d }
	for seed := range uint32(500) {
		m := newTeller(seed)
		p, code, _ := impl.Parse(m.program(60))
		if code != 0 || len(p.Nodes) > impl.MaxNodes-10 {
			continue
		}
		inputs, most := m.someInputs(), m.next(500)
		want := evaluated(t, p, inputs, most)
		for _, name := range someNames {
			if isFree(p, 0, name) {
				continue
			}
			forms, more := binders(name, draftAt(p, 0, same))
			for i, d := range forms {
				got := evaluated(t, impl.Program{Nodes: d.nodes(nil)}, inputs, most+more[i])
				counts[got.Kind]++
				got.Steps -= more[i]
				if !sameOutcome(got, want) {
					t.Fatalf("with %s, the outcome is %s, not %s, for %s", name, outcomeText(got), outcomeText(want), impl.PrintProgram(p))
				}
			}
		}
	}
	if counts[impl.OutDone] < 500 || counts[impl.OutRaised] < 500 || counts[impl.OutSteps] < 500 {
		t.Errorf("the kinds occur so many times: %v", counts)
	}
}

// TestUnusedNamesWithin binds a name around some part of a program in which it
// is not free.
func TestUnusedNamesWithin(t *testing.T) {
	counts := map[int]int{}
	for seed := range uint32(3000) {
		m := newTeller(seed)
		p, code, _ := impl.Parse(m.program(60))
		if code != 0 || len(p.Nodes) > impl.MaxNodes-10 {
			continue
		}
		place, name, form := m.next(len(p.Nodes)), someNames[m.next(len(someNames))], m.next(5)
		kept := func(n impl.Node) bool {
			return len(n.Kids) > 0 && n.Kids[0] == place && (n.Kind == impl.ERec || n.Kind == impl.ECon && n.S == "::")
		}
		if isFree(p, place, name) || slices.ContainsFunc(p.Nodes, kept) {
			continue
		}
		d := draftAt(p, 0, func(at int, d *draft) *draft {
			if at != place {
				return d
			}
			forms, _ := binders(name, d)
			return forms[form]
		})
		inputs := m.someInputs()
		want, got := evaluated(t, p, inputs, impl.MaxSteps), evaluated(t, impl.Program{Nodes: d.nodes(nil)}, inputs, impl.MaxSteps)
		counts[got.Kind]++
		if impl.Ends(got) && briefOutcome(got) != briefOutcome(want) || got.Kind == impl.OutBad || impl.Ends(got) && !impl.Ends(want) || got.Steps < want.Steps {
			t.Fatalf("with %s, the outcome is %s, not %s, for %s", name, outcomeText(got), outcomeText(want), impl.PrintProgram(p))
		}
		if !beginsWith(want.Trace, got.Trace) {
			t.Fatalf("with %s, the output is different for %s", name, impl.PrintProgram(p))
		}
	}
	if counts[impl.OutDone] < 300 || counts[impl.OutRaised] < 300 {
		t.Errorf("the kinds occur so many times: %v", counts)
	}
}
