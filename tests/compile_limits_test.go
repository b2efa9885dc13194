package tests

import (
	"math"
	"reflect"
	"slices"
	"testing"

	"loop.example/g00395/impl"
)

// TestCompileBadPrograms: there is nothing for a program that is not valid.
func TestCompileBadPrograms(t *testing.T) {
	checkNoCode(t, "the zero value", impl.Program{})
	for i, p := range brokenPrograms(t) {
		// All names would be known.
		for at, n := range p.Nodes {
			if n.Kind == impl.EVar && n.S == "x" {
				p.Nodes[at].S = "print"
			}
		}
		checkNoCode(t, "the broken program "+impl.NumText(i), p)
	}
}

// checkSize compiles an expression of MaxNodes nodes, or a few less, and checks
// the number of instructions.
func checkSize(t *testing.T, what string, d *draft, want int) {
	t.Helper()
	p := impl.Program{Nodes: d.nodes(nil)}
	if len(p.Nodes) > impl.MaxNodes || len(p.Nodes) < impl.MaxNodes-3 {
		t.Fatalf("%s: there are %d nodes", what, len(p.Nodes))
	}
	if c, ok := compiled(t, p); !ok || len(c.Ins) != want {
		t.Errorf("%s: Compile is %v, with %d instructions, not %d", what, ok, len(c.Ins), want)
	}
}

// repeated puts a form around an expression n times.
func repeated(n int, d *draft, form func(*draft) *draft) *draft {
	for range n {
		d = form(d)
	}
	return d
}

// TestCompileLargePrograms has the programs with the most instructions. No
// program of MaxNodes nodes needs as many as MaxCode.
func TestCompileLargePrograms(t *testing.T) {
	bodies := slices.Repeat([]*draft{one()}, impl.MaxNodes-2)
	checkSize(t, "arms", arms(one(), bodies...), 1+4*598+1+1)
	checkSize(t, "functions", repeated(599, variable("x"), func(d *draft) *draft { return node(impl.EFun, "x", d) }), 3*599+1+1)
	checkSize(t, "references", refs(599, one()), 599+1+1)
	two := func(kind int, s string) func(*draft) *draft {
		return func(d *draft) *draft { return node(kind, s, d, one()) }
	}
	other := func(kind int, s string) func(*draft) *draft {
		return func(d *draft) *draft { return node(kind, s, one(), d) }
	}
	for kind, each := range map[int]int{impl.ETry: 5, impl.ELet: 3} {
		checkSize(t, exprKinds[kind], repeated(299, variable("print"), two(kind, "x")), 299*each+1+1)
		checkSize(t, exprKinds[kind], repeated(299, variable("x"), other(kind, "x")), 299*each+1+1)
	}
	for _, kind := range []int{impl.EApp, impl.EPair, impl.ESet, impl.ESeq} {
		checkSize(t, exprKinds[kind], repeated(299, one(), two(kind, "")), 2*299+1+1)
		checkSize(t, exprKinds[kind], repeated(299, one(), other(kind, "")), 2*299+1+1)
	}
	checkSize(t, "prim", repeated(299, one(), two(impl.EPrim, "+")), 2*299+1+1)
	checkSize(t, "if", repeated(199, one(), func(d *draft) *draft { return node(impl.EIf, "", d, one(), one()) }), 4*199+1+1)
	checkSize(t, "let rec", repeated(199, one(), func(d *draft) *draft { return node(impl.ERec, "f", node(impl.EFun, "x", d), variable("f")) }), 5*199+1+1)
	checkSize(t, "match", repeated(299, variable("x"), func(d *draft) *draft {
		match := node(impl.EMatch, "", one())
		armDraft(&patDraft{PNode: pnode(impl.PVar, 0, "x")}, d, match)
		return match
	}), 299*5+1+1)
	checkNoCode(t, "one node more than MaxNodes", impl.Program{Nodes: refs(impl.MaxNodes, one()).nodes(nil)})
}

// wide is a match of a value that does not matter with a pattern of so many
// names, around an expression.
func wide(names int, d *draft) *draft {
	match := node(impl.EMatch, "", node(impl.ERaise, "", one()))
	armDraft(widePair(names-1), d, match)
	return match
}

// TestCompileManyBindings: an OpVar counts all the bindings, although code is
// not valid with more than MaxCode of them. Only large patterns have so many
// names.
func TestCompileManyBindings(t *testing.T) {
	for _, names := range []int{100, 300} {
		d := repeated(impl.MaxCode/names, variable("x"), func(d *draft) *draft { return wide(names, d) })
		for more := range 3 {
			whole := repeated(more, d, func(d *draft) *draft { return node(impl.EFun, "y", d) })
			p := impl.Program{Nodes: node(impl.EFun, "x", whole).nodes(nil)}
			if !impl.ProgramOk(p) {
				t.Fatal("the program is not valid")
			}
			if _, code, at := impl.Infer(p); code != 0 && names == 100 {
				t.Fatalf("Infer is %d and %d", code, at)
			}
			c, ok := compiled(t, p)
			if !ok || !slices.Contains(c.Ins, impl.Ins{Op: impl.OpVar, A: impl.MaxCode + more}) || countsFar(c) != (more > 0) {
				t.Errorf("with %d more names of %d, Compile is %v with %s", more, names, ok, codeText(c))
			}
		}
		near := repeated(20, variable("w0"), func(d *draft) *draft { return wide(names, d) })
		if c, ok := compiled(t, impl.Program{Nodes: near.nodes(nil)}); !ok || !slices.Contains(c.Ins, impl.Ins{Op: impl.OpDrop, A: names}) {
			t.Errorf("%d names are not compiled", names)
		}
	}
}

// TestCompileMostBindings has as many bindings as a program can have, around
// names of every kind.
func TestCompileMostBindings(t *testing.T) {
	around := func(name string) impl.Program {
		whole := repeated(199, variable(name), func(d *draft) *draft { return wide(300, d) })
		return impl.Program{Nodes: node(impl.EFun, "x", whole).nodes(nil)}
	}
	for name, want := range map[string]impl.Ins{"x": {Op: impl.OpVar, A: 199 * 300}, "w0": {Op: impl.OpVar}, "w299": {Op: impl.OpVar, A: 299}, "size": {Op: impl.OpGiven, S: "size"}} {
		if c, ok := compiled(t, around(name)); !ok || !slices.Contains(c.Ins, want) {
			t.Errorf("%s: Compile is %v, or there is no %+v", name, ok, want)
		}
	}
	checkNoCode(t, "an unknown name in many bindings", around("y"))
	// The unknown name may come before or after the one that is far from its
	// binding.
	for _, d := range []*draft{node(impl.EPair, "", variable("x"), variable("y")), node(impl.EPair, "", variable("y"), variable("x"))} {
		whole := repeated(15, d, func(d *draft) *draft { return wide(300, d) })
		checkNoCode(t, "an unknown name and a far one", impl.Program{Nodes: node(impl.EFun, "x", whole).nodes(nil)})
	}
}

// TestCompiledManyBindingsRun: a count of more than MaxCode leads to the right
// binding.
func TestCompiledManyBindingsRun(t *testing.T) {
	const names = 97
	value := one()
	for range names - 1 {
		value = node(impl.EPair, "", one(), value)
	}
	whole := repeated(31, node(impl.EApp, "", variable("print"), variable("x")), func(d *draft) *draft {
		match := node(impl.EMatch, "", variable("y"))
		armDraft(widePair(names-1), d, match)
		return match
	})
	seven := &draft{Node: impl.Node{Kind: impl.EInt, N: 7}}
	p := impl.Program{Nodes: node(impl.ELet, "x", seven, node(impl.ELet, "y", value, whole)).nodes(nil)}
	c, ok := compiled(t, p)
	if !ok || !countsFar(c) || !slices.Contains(c.Ins, impl.Ins{Op: impl.OpVar, A: 1 + 31*names}) {
		t.Fatalf("Compile is %v with %s", ok, codeText(c))
	}
	if o := ranCode(c, nil, 10000); o.Kind != impl.OutDone || !slices.Equal(o.Trace, []string{"7"}) {
		t.Errorf("the outcome of the code is %s", outcomeText(o))
	}
	checkRan(t, p, c, nil)
}

// roomyCode is code whose slices all have something behind their ends.
func roomyCode(c impl.Code) impl.Code {
	pats := slices.Clone(c.Pats)
	for i, q := range pats {
		nodes := slices.Clone(q.Nodes)
		for j, n := range nodes {
			nodes[j].Kids = roomy(n.Kids, 78)
		}
		pats[i].Nodes = roomy(nodes, impl.PNode{Kind: 79})
	}
	return impl.Code{Ins: roomy(slices.Clone(c.Ins), impl.Ins{Op: 80}), Pats: roomy(pats, impl.Pat{Nodes: []impl.PNode{{Kind: 81}}})}
}

// wholeCode is a copy of code with what is behind the ends of its slices.
func wholeCode(c impl.Code) impl.Code {
	pats := slices.Clone(c.Pats[:cap(c.Pats)])
	for i, q := range pats {
		pats[i].Nodes = slices.Clone(q.Nodes[:cap(q.Nodes)])
		for j, n := range pats[i].Nodes {
			pats[i].Nodes[j].Kids = slices.Clone(n.Kids[:cap(n.Kids)])
		}
	}
	return impl.Code{Ins: slices.Clone(c.Ins[:cap(c.Ins)]), Pats: pats}
}

// spoilCode changes everything in code, up to the capacities.
func spoilCode(c impl.Code) {
	for i := range c.Ins[:cap(c.Ins)] {
		c.Ins[:cap(c.Ins)][i] = impl.Ins{Op: -1}
	}
	for i := range c.Pats[:cap(c.Pats)] {
		q := &c.Pats[:cap(c.Pats)][i]
		for j := range q.Nodes[:cap(q.Nodes)] {
			spoilNumbers(q.Nodes[:cap(q.Nodes)][j].Kids)
			q.Nodes[:cap(q.Nodes)][j] = impl.PNode{Kind: -1}
		}
		*q = impl.Pat{}
	}
}

// TestCompileLeavesItsArgument: the argument is not changed, and shares nothing
// with the result.
func TestCompileLeavesItsArgument(t *testing.T) {
	for _, text := range []string{everyFold, everyForm, everyRun, "x", "1 + 2", "match 1 with A (x, 2) -> () end", "match 1 with (x, y) -> z end"} {
		p := roomyProgram(parsed(t, text))
		before := stretched(p)
		first, ok := compiled(t, p)
		want := codeText(first)
		for range 2 {
			c, again := impl.Compile(p)
			if codeText(c) != want || again != ok {
				t.Errorf("the results differ for %s", brief(text))
			}
			spoilCode(c)
			if !reflect.DeepEqual(stretched(p), before) {
				t.Fatalf("the argument has changed: %s", brief(text))
			}
		}
		spoilProgram(p)
		if codeText(first) != want {
			t.Errorf("the result has changed with the argument: %s", brief(text))
		}
	}
}

// TestCompileSharesNothing: no two slices of a result share memory, not even
// behind their ends.
func TestCompileSharesNothing(t *testing.T) {
	for _, text := range []string{everyFold, everyForm, everyRun, "match 1 with (a, (b, 1)) -> 1 | (a, (b, 1)) -> 2 end"} {
		c, ok := impl.Compile(parsed(t, text))
		if !ok || len(c.Pats) == 0 {
			t.Fatalf("%s is compiled to %s", text, codeText(c))
		}
		whole := wholeCode(c)
		want := codeText(c)
		for i, q := range c.Pats {
			for j := range q.Nodes {
				spoilNumbers(q.Nodes[j].Kids)
				q.Nodes[j].Kids = slices.Clone(whole.Pats[i].Nodes[j].Kids[:len(q.Nodes[j].Kids)])
			}
			clear(q.Nodes[len(q.Nodes):cap(q.Nodes)])
		}
		clear(c.Ins[len(c.Ins):cap(c.Ins)])
		clear(c.Pats[len(c.Pats):cap(c.Pats)])
		if got := codeText(c); got != want || !impl.CodeOk(c) {
			t.Errorf("the result has become %s", got)
		}
	}
}

// TestCodeFunctionsLeaveTheirArgument: CodeOk and CodeText do so, too, with
// code that is valid or not.
func TestCodeFunctionsLeaveTheirArgument(t *testing.T) {
	for _, text := range []string{everyFold, everyForm, everyRun, "1"} {
		valid, _ := impl.Compile(parsed(t, text))
		broken := wholeCode(impl.Code{Ins: slices.Clip(valid.Ins), Pats: slices.Clip(valid.Pats)})
		broken.Ins[0].B = -1
		for i, given := range []impl.Code{valid, broken} {
			c := roomyCode(given)
			before := wholeCode(c)
			for range 2 {
				if ok := impl.CodeOk(c); ok != (i == 0) {
					t.Errorf("CodeOk is %v for %s", ok, codeText(given))
				}
				if text := impl.CodeText(c); (text != "") != (i == 0) || text != "" && text != secondText(given) {
					t.Errorf("CodeText is %q for %s", text, codeText(given))
				}
			}
			if !reflect.DeepEqual(wholeCode(c), before) {
				t.Errorf("the argument has changed: %s", codeText(given))
			}
		}
	}
}

// TestCompileKeepsNothing: a result does not depend on the calls before it.
func TestCompileKeepsNothing(t *testing.T) {
	p := parsed(t, everyForm)
	first, _ := impl.Compile(p)
	want := codeText(first)
	for _, text := range []string{"1 + 2", "let x = 1 in y", "fun x -> x", "match 1 with 1 -> 1 end", "if true then 1 else 2", everyRun} {
		impl.Compile(parsed(t, text))
		impl.Compile(impl.Program{})
		impl.CodeOk(impl.Code{})
		if c, ok := impl.Compile(p); !ok || codeText(c) != want {
			t.Errorf("the result is %s after %s", codeText(c), text)
		}
	}
	if codeText(first) != want {
		t.Errorf("the first result has become %s", codeText(first))
	}
}

// TestCompileAnyOffset: offsets may have any size.
func TestCompileAnyOffset(t *testing.T) {
	for _, at := range []int{0, impl.MaxText + 1, math.MaxInt} {
		p := moved(cloned(parsed(t, "match 1 with x -> x end")), func(int) int { return at })
		if c, ok := compiled(t, p); !ok || len(c.Ins) != 7 {
			t.Errorf("with the offset %d, the code is %s", at, codeText(c))
		}
	}
}
