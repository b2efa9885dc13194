package tests

import (
	"slices"
	"strings"
	"testing"

	"loop.example/g00395/impl"
)

// vmEvents counts the outcomes by their kinds, the lines, and what happened to
// the cells.
type vmEvents struct {
	kinds map[int]int
	lines int
	vmTally
}

func (v *vmEvents) add(o impl.Outcome, tally vmTally) {
	if v.kinds == nil {
		v.kinds = map[int]int{}
	}
	v.kinds[o.Kind]++
	v.lines += len(o.Trace)
	v.created += tally.created
	v.full += tally.full
	v.freed += tally.freed
}

// check complains unless each kind occurs so many times, in the order of the
// numbers, and so many cells were freed.
func (v *vmEvents) check(t *testing.T, freed int, kinds ...int) {
	t.Helper()
	for i, least := range kinds {
		if v.kinds[i+1] < least || v.freed < freed {
			t.Errorf("there were %+v", *v)
			return
		}
	}
}

// agrees reports whether two outcomes of the same program may be those of two
// engines.
func agrees(a impl.Outcome, b impl.Outcome) bool {
	ends := func(o impl.Outcome) bool { return o.Kind == impl.OutDone || o.Kind == impl.OutRaised }
	if ends(a) && ends(b) {
		return a.Kind == b.Kind && a.N == b.N && sameLines(a.Trace, b.Trace)
	}
	return a.Kind != impl.OutBad && b.Kind != impl.OutBad && (beginsWith(a.Trace, b.Trace) || beginsWith(b.Trace, a.Trace))
}

// checkAgreed runs a typed program in both engines, with several limits and
// sizes.
func checkAgreed(t *testing.T, p impl.Program, inputs []int, limits []int, sizes []int, events *vmEvents) {
	t.Helper()
	c, ok := impl.Compile(p)
	if !ok {
		t.Fatalf("a typed program is not compiled: %s", impl.PrintProgram(p))
	}
	outcomes := []impl.Outcome{}
	for _, most := range append([]int{impl.MaxSteps}, limits...) {
		outcomes = append(outcomes, impl.Eval(p, inputs, most))
	}
	for _, most := range append([]int{impl.MaxSteps}, limits...) {
		for _, size := range append([]int{impl.MaxCells}, sizes...) {
			o, tally := ranTallied(t, c, inputs, most, size)
			events.add(o, tally)
			if o.Kind == impl.OutBad {
				t.Fatalf("the outcome is bad for %s", impl.PrintProgram(p))
			}
			for _, e := range outcomes {
				if !agrees(e, o) || !agrees(o, e) {
					t.Fatalf("the outcome is %s, not %s, with at most %d steps and %d cells, for %s", outcomeText(o), outcomeText(e), most, size, impl.PrintProgram(p))
				}
			}
		}
	}
}

// TestVmAgreesWithEval: for a typed program, both engines end alike, or one of
// them runs out of steps or space.
func TestVmAgreesWithEval(t *testing.T) {
	events := vmEvents{}
	for seed := range uint32(3000) {
		m := newTeller(seed)
		m.tells += m.next(30)
		p, code, _ := impl.Parse(m.program(80))
		if code != 0 {
			continue
		}
		if _, code, at := impl.Infer(p); code != 0 {
			t.Fatalf("Infer is %d and %d for %s", code, at, impl.PrintProgram(p))
		}
		checkAgreed(t, p, m.someInputs(), []int{m.next(30), m.next(200), m.next(20000)}, []int{m.next(8), m.next(30), m.next(100), m.next(4000)}, &events)
	}
	events.check(t, 10000, 10000, 10000, 3000, 0, 5000)
}

// TestVmAgreesOnFoldedPrograms runs the code of the folded program, too.
func TestVmAgreesOnFoldedPrograms(t *testing.T) {
	events := vmEvents{}
	for seed := range uint32(1000) {
		m := newTeller(seed)
		p, code, _ := impl.Parse(m.program(60))
		if code != 0 {
			continue
		}
		inputs := m.someInputs()
		c, _ := impl.Compile(impl.Fold(p))
		o, tally := ranTallied(t, c, inputs, impl.MaxSteps, impl.MaxCells)
		events.add(o, tally)
		if e := impl.Eval(p, inputs, impl.MaxSteps); !agrees(e, o) {
			t.Fatalf("the outcome is %s, not %s, for %s", outcomeText(o), outcomeText(e), impl.PrintProgram(p))
		}
	}
	events.check(t, 0, 200, 200)
}

// TestVmWithMistakes has programs with a few mistakes, of which those that have
// a type are not bad. The others are bad in both engines, or in none, if both
// have enough steps and space.
func TestVmWithMistakes(t *testing.T) {
	events, typed := vmEvents{}, vmEvents{}
	for seed := range uint32(6000) {
		m := newTeller(seed)
		m.mistakes = 10 + 30*int(seed%4)
		p, code, _ := impl.Parse(m.program(60))
		c, ok := impl.Compile(p)
		if code != 0 || !ok {
			continue
		}
		inputs := m.someInputs()
		if _, code, _ := impl.Infer(p); code == 0 {
			checkAgreed(t, p, inputs, []int{m.next(200)}, []int{m.next(30)}, &typed)
			continue
		}
		o, tally := ranTallied(t, c, inputs, impl.MaxSteps, impl.MaxCells)
		events.add(o, tally)
		e := impl.Eval(p, inputs, impl.MaxSteps)
		enough := e.Kind != impl.OutSteps && o.Kind != impl.OutSteps && o.Kind != impl.OutHeap
		if enough && briefOutcome(o) != briefOutcome(e) || !beginsWith(e.Trace, o.Trace) && !beginsWith(o.Trace, e.Trace) {
			t.Fatalf("the outcome is %s, not %s, for %s", outcomeText(o), outcomeText(e), impl.PrintProgram(p))
		}
		checkMoreOf(t, c, inputs, []int{m.next(20), m.next(200)}, []int{m.next(10), m.next(50)}, &events)
	}
	events.check(t, 0, 200, 200, 100, 500, 100)
	typed.check(t, 0, 200, 200, 100)
}

// checkMoreOf runs code with several limits and sizes. With more steps, a run
// has the same output and goes on; one that has ended stays the same. In a
// greater heap, the same is true of one that has run out of space.
func checkMoreOf(t *testing.T, c impl.Code, inputs []int, limits []int, sizes []int, events *vmEvents) {
	t.Helper()
	limits, sizes = append([]int{-1, 0, impl.MaxSteps}, limits...), append([]int{-1, 0, impl.MaxCells}, sizes...)
	slices.Sort(limits)
	slices.Sort(sizes)
	above := make([]impl.Outcome, len(sizes))
	for i, most := range limits {
		for j, size := range sizes {
			o, tally := ranTallied(t, c, inputs, most, size)
			events.add(o, tally)
			if i > 0 {
				checkLater(t, c, above[j], o, impl.OutSteps)
			}
			if j > 0 {
				checkLater(t, c, above[j-1], o, impl.OutHeap)
			}
			above[j] = o
			if o.Kind == impl.OutSteps && o.Steps != max(most, 0) || o.Steps > max(most, 0) {
				t.Fatalf("the outcome is %s with at most %d steps, for %s", outcomeText(o), most, brief(codeText(c)))
			}
		}
	}
}

// checkLater: what has ended for want of something goes on with more of it, and
// everything else is the same.
func checkLater(t *testing.T, c impl.Code, before impl.Outcome, after impl.Outcome, want int) {
	t.Helper()
	if before.Kind != want && !sameOutcome(before, after) || !beginsWith(after.Trace, before.Trace) || after.Steps < before.Steps {
		t.Fatalf("the outcome is %s, and %s with less, for %s", outcomeText(after), outcomeText(before), brief(codeText(c)))
	}
}

// TestVmMoreStepsAndCells: a greater limit of steps changes nothing in what has
// happened so far, and a greater heap only whether there is enough space.
func TestVmMoreStepsAndCells(t *testing.T) {
	events := vmEvents{}
	for seed := range uint32(1500) {
		m := newTeller(seed)
		m.tells += m.next(30)
		p, code, _ := impl.Parse(m.program(80))
		if code != 0 {
			continue
		}
		c, _ := impl.Compile(p)
		checkMoreOf(t, c, m.someInputs(), []int{m.next(10), m.next(40), m.next(100), m.next(20000)}, []int{m.next(5), m.next(10), m.next(20), m.next(100), m.next(4000)}, &events)
	}
	events.check(t, 5000, 5000, 5000, 5000, 0, 5000)
}

// TestVmEverySize has every size of the heap up to the first that is enough, at
// which all that is dead has to be freed, and a few more.
func TestVmEverySize(t *testing.T) {
	events, exact := vmEvents{}, vmEvents{}
	for seed := range uint32(1500) {
		m := newTeller(seed)
		m.tells += m.next(60)
		p, code, _ := impl.Parse(m.program(80))
		if code != 0 {
			continue
		}
		c, _ := impl.Compile(p)
		inputs := m.someInputs()
		whole := ran(t, c, inputs, 3000, impl.MaxCells)
		for size, enough := 0, 0; enough < 3 && size < 150; size++ {
			o, tally := ranTallied(t, c, inputs, 3000, size)
			events.add(o, tally)
			if o.Kind == impl.OutHeap && enough == 0 {
				if !beginsWith(whole.Trace, o.Trace) || o.Steps > whole.Steps {
					t.Fatalf("the outcome is %s, not %s, with %d cells, for %s", outcomeText(o), outcomeText(whole), size, impl.PrintProgram(p))
				}
				continue
			}
			if !sameOutcome(o, whole) {
				t.Fatalf("the outcome is %s, not %s, with %d cells, for %s", outcomeText(o), outcomeText(whole), size, impl.PrintProgram(p))
			}
			enough++
			exact.add(o, tally)
		}
	}
	events.check(t, 10000, 1000, 1000, 0, 0, 5000)
	exact.check(t, 5000, 1000, 1000)
}

// TestVmUnusedNames: a name that is not free has no influence on a program, if
// there are enough steps and cells.
func TestVmUnusedNames(t *testing.T) {
	events := vmEvents{}
	same := func(_ int, d *draft) *draft { return d }
	for seed := range uint32(400) {
		m := newTeller(seed)
		p, code, _ := impl.Parse(m.program(60))
		if code != 0 || len(p.Nodes) > impl.MaxNodes-10 {
			continue
		}
		c, _ := impl.Compile(p)
		inputs := m.someInputs()
		want := ran(t, c, inputs, impl.MaxSteps, impl.MaxCells)
		for _, name := range someNames {
			if isFree(p, 0, name) {
				continue
			}
			forms, _ := binders(name, draftAt(p, 0, same))
			for _, d := range forms {
				c, ok := impl.Compile(impl.Program{Nodes: d.nodes(nil)})
				if !ok {
					t.Fatalf("with %s, there is no code for %s", name, impl.PrintProgram(p))
				}
				got, tally := ranTallied(t, c, inputs, impl.MaxSteps, impl.MaxCells)
				events.add(got, tally)
				if !agrees(got, want) || impl.Ends(got) && !impl.Ends(want) {
					t.Fatalf("with %s, the outcome is %s, not %s, for %s", name, outcomeText(got), outcomeText(want), impl.PrintProgram(p))
				}
			}
		}
	}
	events.check(t, 0, 2000, 2000, 50)
}

// TestVmAllSmallPrograms compares both engines for all small expressions. Only
// programs without a type are bad.
func TestVmAllSmallPrograms(t *testing.T) {
	events := vmEvents{}
	values := []*draft{one(), node(impl.ERef, "", one()), node(impl.EPair, "", one(), one()), node(impl.EFun, "x", variable("x")), node(impl.EUnit, "")}
	for _, list := range smallExprs(5) {
		for i, d := range list {
			if i%3 > 0 && len(list) > 10000 {
				continue
			}
			whole := node(impl.ELet, "x", values[i%len(values)], node(impl.ELet, "f", node(impl.EFun, "y", variable("x")), d))
			p := impl.Program{Nodes: whole.nodes(nil)}
			c, _ := impl.Compile(p)
			o, tally := ranTallied(t, c, nil, 200, 2+i%9)
			events.add(o, tally)
			e := impl.Eval(p, nil, 200)
			enough := e.Kind != impl.OutSteps && o.Kind != impl.OutSteps && o.Kind != impl.OutHeap
			if enough && briefOutcome(o) != briefOutcome(e) {
				t.Fatalf("the outcome is %s, not %s, for %s", outcomeText(o), outcomeText(e), impl.PrintProgram(p))
			}
			if o.Kind != impl.OutBad {
				continue
			}
			if _, code, _ := impl.Infer(p); code == 0 {
				t.Fatalf("the outcome is bad for %s", impl.PrintProgram(p))
			}
		}
	}
	events.check(t, 100, 2000, 500, 0, 2000, 2000)
}

// TestVmAllShortCode compares both machines for all code of up to four of some
// instructions, and an OpRet.
func TestVmAllShortCode(t *testing.T) {
	events := vmEvents{}
	some := codeOf(t, "int 0; unit; con 0 true; con 1 A; pair; var 0; fun 2; rec 1; call; ret; jump 1; ifnot 0; bind; drop 1; prim /; raise; try 2; ok; arm 0 1; noarm; ref; get; set; pop; given read; arm 1 3", "(x, y) | x").Ins
	pats := patsOf(t, "(x, y) | x")
	ins := []impl.Ins{}
	var extend func(left int)
	extend = func(left int) {
		c := impl.Code{Ins: append(slices.Clone(ins), slices.Repeat([]impl.Ins{{Op: impl.OpRet}}, max(1, 4-len(ins)))...), Pats: pats}
		size := (len(c.Ins) + c.Ins[0].Op + c.Ins[1].Op) % 4
		o, tally := ranTallied(t, c, nil, 30, size)
		events.add(o, tally)
		if left == 0 {
			return
		}
		for _, i := range some {
			ins = append(ins, i)
			extend(left - 1)
			ins = ins[:len(ins)-1]
		}
	}
	extend(4)
	events.check(t, 200, 5000, 5000, 5000, 100000, 5000)
}

// vmNeeds are the kinds of the values that instructions take, the last one on
// top, and what they push: a number, a string, unit, a bool, a cell that a
// pattern matches, a function, a reference or anything.
var vmNeeds = map[string][2]string{
	"int": {"", "n"}, "str": {"", "s"}, "unit": {"", "u"}, "given": {"", "f"}, "con": {"", "b"}, "pair": {"**", "c"}, "fun": {"", "f"}, "ref": {"*", "r"}, "get": {"r", "n"}, "set": {"r*", "u"}, "pop": {"u", ""}, "bind": {"*", ""},
	"prim": {"nn", "n"}, "call": {"f*", "n"}, "ret": {"*", ""}, "ifnot": {"b", ""}, "raise": {"n", ""}, "arm": {"c", ""},
}

// steadyCode is random code, most instructions of which have what they need if
// those ahead of them were executed once.
func (g *lot) steadyCode(t *testing.T, size int) impl.Code {
	c := impl.Code{Pats: patsOf(t, "(x, y) | x | (_, y) | A z | (x, (y, z))")}
	stack, binds, tries := "", 0, 0
	for len(c.Ins) < size {
		i := g.someIns(size, len(c.Pats))
		word := opWords[i.Op-1]
		needs := vmNeeds[word]
		if word == "con" && i.A == 1 {
			needs = [2]string{"*", "c"}
		}
		right := len(stack) >= len(needs[0]) && (word != "ok" || tries > 0) && (word != "var" || i.A < binds) && (word != "drop" || i.A <= binds)
		for k := range needs[0] {
			right = right && (needs[0][k] == '*' || needs[0][k] == stack[len(stack)-len(needs[0])+k])
		}
		leaves := strings.Contains("ret jump raise noarm", word)
		if (!right || leaves) && g.next(40) > 0 {
			continue
		}
		stack = stack[:max(0, len(stack)-len(needs[0]))] + needs[1]
		binds += map[string]int{"bind": 1, "rec": 1, "arm": 1, "drop": -min(i.A, binds)}[word]
		tries = max(0, tries+map[string]int{"try": 1, "ok": -1}[word])
		if word == "var" {
			stack += "n"
		}
		c.Ins = append(c.Ins, i)
	}
	return c
}

// TestVmSteadyCode compares both machines for random code, with several limits
// and sizes.
func TestVmSteadyCode(t *testing.T) {
	events := vmEvents{}
	for seed := range uint32(4000) {
		g := &lot{seed: seed}
		c := g.steadyCode(t, 5+g.next(60))
		checkMoreOf(t, c, g.someInputs(), []int{g.next(20), g.next(100), 500}, []int{g.next(4), g.next(8), g.next(30)}, &events)
	}
	events.check(t, 10000, 500, 1000, 10000, 10000, 10000)
}

// TestVmChangedCode compares both machines for code that was compiled, some
// instructions of which were changed, exchanged or replaced by others.
func TestVmChangedCode(t *testing.T) {
	events := vmEvents{}
	for seed := range uint32(4000) {
		m := newTeller(seed)
		p, code, _ := impl.Parse(m.program(60))
		if code != 0 {
			continue
		}
		c, _ := impl.Compile(p)
		for range 1 + m.next(4) {
			at, other := m.next(len(c.Ins)), m.next(len(c.Ins))
			switch i := &c.Ins[at]; m.next(5) {
			case 0:
				m.changeIns(i)
			case 1:
				c.Ins[at], c.Ins[other] = c.Ins[other], c.Ins[at]
			case 2:
				*i = m.someIns(len(c.Ins), len(c.Pats))
			case 3:
				*i = c.Ins[other]
			case 4:
				if strings.Contains("A AB", fieldsOf(i.Op)) && fieldsOf(i.Op) != "" && i.Op != impl.OpInt && i.Op != impl.OpArm {
					i.A = m.next(len(c.Ins))
				}
			}
		}
		inputs := m.someInputs()
		if !codeIsRight(c) {
			events.add(ranTallied(t, c, inputs, 100, 100))
			continue
		}
		checkMoreOf(t, c, inputs, []int{m.next(20), m.next(500)}, []int{m.next(6), m.next(40)}, &events)
	}
	events.check(t, 3000, 2000, 1000, 5000, 5000, 5000)
	if events.kinds[0] < 100 {
		t.Errorf("there were %+v", events)
	}
}
