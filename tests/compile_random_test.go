package tests

import (
	"slices"
	"testing"

	"loop.example/g00395/impl"
)

// codeTally counts what became of programs.
type codeTally struct {
	done, refused, typed, invalid, pats int
	kinds                               map[int]int
	ops                                 map[int]int
}

// checkCompileAll compiles a program, runs its code, and compiles its folded
// form, which has no other names. A program with a type is compiled.
func (c *codeTally) checkCompileAll(t *testing.T, p impl.Program, inputs []int) {
	t.Helper()
	if c.kinds == nil {
		c.kinds, c.ops = map[int]int{}, map[int]int{}
	}
	code, ok := compiled(t, p)
	if !impl.ProgramOk(p) {
		c.invalid++
		return
	}
	if _, fault, _ := impl.Infer(p); fault == 0 {
		c.typed++
		if !ok {
			t.Fatalf("a typed program is not compiled: %s", brief(impl.PrintProgram(p)))
		}
	}
	if !ok {
		c.refused++
		return
	}
	c.done++
	c.pats += len(code.Pats)
	for _, i := range code.Ins {
		c.ops[i.Op]++
	}
	c.kinds[checkRan(t, p, code, inputs)]++
	if _, ok := compiled(t, impl.Fold(p)); !ok {
		t.Fatalf("the folded program is not compiled: %s", brief(impl.PrintProgram(p)))
	}
}

// check complains unless there was enough of everything. All Ops have to occur
// where the programs have all kinds of nodes.
func (c *codeTally) check(t *testing.T, done int, refused int, typed int, allOps bool) {
	t.Helper()
	if c.done < done || c.refused < refused || c.typed < typed || allOps && (len(c.ops) != 25 || slices.Min([]int{c.pats, c.ops[impl.OpRec], c.ops[impl.OpTry], c.ops[impl.OpArm]}) < 500) {
		t.Errorf("there were %+v", *c)
	}
}

// TestCompileAllSmallPrograms compares Compile with the second compiler for all
// small expressions, with and without bindings of their names.
func TestCompileAllSmallPrograms(t *testing.T) {
	c := codeTally{}
	for _, list := range foldExprs(4) {
		for i, d := range list {
			c.checkCompileAll(t, impl.Program{Nodes: d.nodes(nil)}, nil)
			if i%10 == 0 {
				c.checkCompileAll(t, impl.Program{Nodes: node(impl.ELet, "x", one(), d).nodes(nil)}, nil)
			}
		}
	}
	for _, list := range smallExprs(4) {
		for _, d := range list {
			whole := node(impl.ELet, "x", one(), node(impl.EFun, "f", d))
			c.checkCompileAll(t, impl.Program{Nodes: whole.nodes(nil)}, nil)
			whole = node(impl.ERec, "f", node(impl.EFun, "x", d), node(impl.EApp, "", variable("f"), one()))
			c.checkCompileAll(t, impl.Program{Nodes: whole.nodes(nil)}, nil)
		}
	}
	c.check(t, 10000, 1000, 1000, false)
}

// TestCompileMadePrograms has programs that were made for a type.
func TestCompileMadePrograms(t *testing.T) {
	c := codeTally{}
	for seed := range uint32(3000) {
		m := newTeller(seed)
		m.tells += m.next(60)
		p, code, _ := impl.Parse(m.program(80))
		if code == 0 {
			c.checkCompileAll(t, p, m.someInputs())
		}
	}
	c.check(t, 2500, 0, 2500, true)
	if c.kinds[impl.OutDone] < 500 || c.kinds[impl.OutRaised] < 500 || c.kinds[impl.OutBad] > 0 || c.refused > 0 {
		t.Errorf("there were %+v", c)
	}
}

// TestCompileMistakes has programs with a few mistakes.
func TestCompileMistakes(t *testing.T) {
	c := codeTally{}
	for seed := range uint32(4000) {
		m := newTeller(seed)
		m.mistakes = 10 + 30*int(seed%4)
		p, code, _ := impl.Parse(m.program(60))
		if code == 0 {
			c.checkCompileAll(t, p, m.someInputs())
		}
	}
	c.check(t, 2500, 100, 500, true)
	if c.kinds[impl.OutBad] < 100 {
		t.Errorf("there were %+v", c)
	}
}

// TestCompileRandomForms has programs of any form, some of which know all of
// their names.
func TestCompileRandomForms(t *testing.T) {
	c := codeTally{}
	for seed := range uint32(10000) {
		g := &lot{seed: seed}
		d := g.expr(1 + g.next(40))
		if seed%3 > 0 {
			for _, name := range []string{"x", "y", "f", "abcdefghijkl", "a_1"} {
				d = node(impl.ELet, name, g.expr(g.next(4)), d)
			}
		}
		c.checkCompileAll(t, impl.Program{Nodes: d.nodes(nil)}, g.someInputs())
	}
	c.check(t, 2000, 1000, 20, true)
}

// TestCompileChangedPrograms has programs of which something was changed, so
// that many are not valid or have unknown names.
func TestCompileChangedPrograms(t *testing.T) {
	c := codeTally{}
	for seed := range uint32(2000) {
		m := newTeller(seed)
		p, code, _ := impl.Parse(m.program(60))
		if code != 0 {
			continue
		}
		for range 4 {
			q := cloned(p)
			m.changeProgram(&q)
			c.checkCompileAll(t, q, m.someInputs())
		}
	}
	c.check(t, 1000, 50, 500, true)
	if c.invalid < 1000 {
		t.Errorf("there were %+v", c)
	}
}
