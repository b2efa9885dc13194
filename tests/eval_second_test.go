package tests

import (
	"reflect"
	"strings"
	"testing"

	"loop.example/g00395/impl"
)

// thing is a value. Its kind is that of the node that makes it, or 0 for the
// predefined function s.
type thing struct {
	kind int
	n    int
	s    string
	// kids are the parts, or the content of a reference.
	kids []*thing
	// at is the EFun of a function, and env has its bindings. self is the name
	// by which a function of a let rec knows itself.
	at   int
	env  []bound
	self string
}

type bound struct {
	name string
	is   *thing
}

// frame is a node whose evaluation has been started, with the values of the
// children that are evaluated.
type frame struct {
	at   int
	env  []bound
	done []*thing
}

// stepper evaluates as chapter 9 says it, with a list of frames in place of
// recursion.
type stepper struct {
	p      impl.Program
	inputs []int
	most   int
	frames []frame
	o      impl.Outcome
}

// secondEval is Eval.
func secondEval(p impl.Program, inputs []int, most int) impl.Outcome {
	if !impl.ProgramOk(p) {
		return impl.Outcome{}
	}
	m := &stepper{p: p, inputs: inputs, most: min(max(most, 0), 20000)}
	m.enter(0, nil)
	for m.o.Kind == 0 {
		m.goOn()
	}
	return m.o
}

func (m *stepper) stop(kind int) { m.o.Kind = kind }

// enter starts the evaluation of a node.
func (m *stepper) enter(at int, env []bound) {
	if m.o.Steps == m.most {
		m.stop(impl.OutSteps)
		return
	}
	m.o.Steps++
	m.frames = append(m.frames, frame{at: at, env: env})
}

func (m *stepper) last() *frame { return &m.frames[len(m.frames)-1] }

func (m *stepper) drop() { m.frames = m.frames[:len(m.frames)-1] }

// give is the value of the last node.
func (m *stepper) give(v *thing) {
	m.drop()
	if len(m.frames) == 0 {
		m.stop(impl.OutDone)
		return
	}
	m.last().done = append(m.last().done, v)
}

// replace goes on with a child of the last node, whose value is that of the
// node.
func (m *stepper) replace(at int, env []bound) {
	m.drop()
	m.enter(at, env)
}

// raise looks for an ETry, which is still a frame only while its first child
// is evaluated.
func (m *stepper) raise(n int) {
	for ; len(m.frames) > 0; m.drop() {
		f := m.last()
		if node := m.p.Nodes[f.at]; node.Kind == impl.ETry {
			m.replace(node.Kids[1], bind(f.env, node.S, numeral(n)))
			return
		}
	}
	m.o.N = n
	m.stop(impl.OutRaised)
}

func bind(env []bound, name string, is *thing) []bound {
	return append(env[:len(env):len(env)], bound{name, is})
}

func numeral(n int) *thing { return &thing{kind: impl.EInt, n: n} }

func unit() *thing { return &thing{kind: impl.EUnit} }

func (v *thing) is(kind int) bool { return v.kind == kind }

func (v *thing) isCon(s string) bool { return v.kind == impl.ECon && v.s == s && len(v.kids) == 0 }

// goOn does what comes next for the last node.
func (m *stepper) goOn() {
	f := *m.last()
	n := m.p.Nodes[f.at]
	switch n.Kind {
	case impl.EInt, impl.EStr, impl.EUnit:
		m.give(&thing{kind: n.Kind, n: n.N, s: n.S})
		return
	case impl.EVar:
		m.look(n.S, f.env)
		return
	case impl.EFun:
		m.give(&thing{kind: n.Kind, at: f.at, env: f.env})
		return
	}
	first := n.Kind == impl.ELet || n.Kind == impl.ERec || n.Kind == impl.EIf || n.Kind == impl.ESeq || n.Kind == impl.EMatch || n.Kind == impl.ETry
	switch {
	case len(f.done) == 0 && len(n.Kids) > 0 || !first && len(f.done) < len(n.Kids):
		m.enter(n.Kids[len(f.done)], f.env)
	case first:
		m.afterFirst(n, f)
	default:
		m.afterAll(n, f.done)
	}
}

func (m *stepper) look(name string, env []bound) {
	for i := len(env) - 1; i >= 0; i-- {
		if env[i].name == name {
			m.give(env[i].is)
			return
		}
	}
	switch name {
	case "print", "say", "read", "size":
		m.give(&thing{s: name})
	default:
		m.stop(impl.OutBad)
	}
}

// afterFirst has the value of the first child.
func (m *stepper) afterFirst(n impl.Node, f frame) {
	v := f.done[0]
	switch {
	case n.Kind == impl.ELet:
		m.replace(n.Kids[1], bind(f.env, n.S, v))
	case n.Kind == impl.ERec:
		function := *v
		function.self = n.S
		m.replace(n.Kids[1], bind(f.env, n.S, &function))
	case n.Kind == impl.ETry:
		m.give(v)
	case n.Kind == impl.EMatch:
		m.match(n, f.env, v)
	case n.Kind == impl.ESeq && v.is(impl.EUnit), n.Kind == impl.EIf && v.isCon("true"):
		m.replace(n.Kids[1], f.env)
	case n.Kind == impl.EIf && v.isCon("false"):
		m.replace(n.Kids[2], f.env)
	default:
		m.stop(impl.OutBad)
	}
}

func (m *stepper) match(n impl.Node, env []bound, v *thing) {
	for i, q := range n.Pats {
		names := []bound{}
		if fitting(q, 0, v, &names) {
			m.replace(n.Kids[1+i], append(env[:len(env):len(env)], names...))
			return
		}
	}
	m.raise(impl.ErrMatch)
}

// fitting is Hit for things.
func fitting(q impl.Pat, at int, v *thing, names *[]bound) bool {
	n := q.Nodes[at]
	switch n.Kind {
	case impl.PWild:
		return true
	case impl.PVar:
		*names = append(*names, bound{n.S, v})
		return true
	case impl.PInt:
		return v.is(impl.EInt) && v.n == n.N
	case impl.PUnit:
		return v.is(impl.EUnit)
	case impl.PCon:
		return v.is(impl.ECon) && v.s == n.S && len(v.kids) == len(n.Kids) && (len(n.Kids) == 0 || fitting(q, n.Kids[0], v.kids[0], names))
	}
	return v.is(impl.EPair) && fitting(q, n.Kids[0], v.kids[0], names) && fitting(q, n.Kids[1], v.kids[1], names)
}

// afterAll has the values of all children.
func (m *stepper) afterAll(n impl.Node, done []*thing) {
	switch {
	case n.Kind == impl.ECon, n.Kind == impl.EPair, n.Kind == impl.ERef:
		m.give(&thing{kind: n.Kind, s: n.S, kids: done})
	case n.Kind == impl.EApp:
		m.apply(done[0], done[1])
	case n.Kind == impl.EPrim:
		m.prim(n.S, done[0], done[1])
	case n.Kind == impl.ERaise && done[0].is(impl.EInt):
		m.raise(done[0].n)
	case n.Kind == impl.EGet && done[0].is(impl.ERef):
		m.give(done[0].kids[0])
	case n.Kind == impl.ESet && done[0].is(impl.ERef):
		done[0].kids[0] = done[1]
		m.give(unit())
	default:
		m.stop(impl.OutBad)
	}
}

func (m *stepper) apply(f *thing, x *thing) {
	switch {
	case f.is(impl.EFun):
		env := f.env
		if f.self != "" {
			env = bind(env, f.self, f)
		}
		n := m.p.Nodes[f.at]
		m.replace(n.Kids[0], bind(env, n.S, x))
	case f.is(0) && f.s == "print" && x.is(impl.EInt):
		m.o.Trace = append(m.o.Trace, impl.NumText(x.n))
		m.give(unit())
	case f.is(0) && f.s == "say" && x.is(impl.EStr):
		m.o.Trace = append(m.o.Trace, x.s)
		m.give(unit())
	case f.is(0) && f.s == "size" && x.is(impl.EStr):
		m.give(numeral(len(x.s)))
	case f.is(0) && f.s == "read" && x.is(impl.EUnit) && len(m.inputs) == 0:
		m.raise(impl.ErrRead)
	case f.is(0) && f.s == "read" && x.is(impl.EUnit):
		n := m.inputs[0]
		m.inputs = m.inputs[1:]
		m.give(numeral(impl.Wrap(n)))
	default:
		m.stop(impl.OutBad)
	}
}

func (m *stepper) prim(sign string, a *thing, b *thing) {
	bothNumbers := a.is(impl.EInt) && b.is(impl.EInt)
	bothTexts := a.is(impl.EStr) && b.is(impl.EStr)
	switch {
	case sign == "^" && bothTexts && len(a.s+b.s) > 1000:
		m.raise(impl.ErrSize)
	case sign == "^" && bothTexts:
		m.give(&thing{kind: impl.EStr, s: a.s + b.s})
	case sign == "^" || !bothNumbers:
		m.stop(impl.OutBad)
	case strings.Contains("/%", sign) && b.n == 0:
		m.raise(impl.ErrDiv)
	default:
		m.give(result(sign, a.n, b.n))
	}
}

func result(sign string, a int, b int) *thing {
	holds := map[string]bool{"=": a == b, "<>": a != b, "<": a < b, "<=": a <= b}
	if holds[sign] {
		return &thing{kind: impl.ECon, s: "true"}
	}
	switch sign {
	case "+":
		return numeral(impl.AddW(a, b))
	case "-":
		return numeral(impl.SubW(a, b))
	case "*":
		return numeral(impl.MulW(a, b))
	case "/":
		q, _ := impl.DivW(a, b)
		return numeral(q)
	case "%":
		r, _ := impl.RemW(a, b)
		return numeral(r)
	}
	return &thing{kind: impl.ECon, s: "false"}
}

func sameOutcome(a impl.Outcome, b impl.Outcome) bool {
	return a.Kind == b.Kind && a.N == b.N && a.Steps == b.Steps && sameLines(a.Trace, b.Trace)
}

// sameLines takes nil and empty lists as the same.
func sameLines(a []string, b []string) bool {
	return len(a) == 0 && len(b) == 0 || reflect.DeepEqual(a, b)
}

// evaluated is what Eval returns, after it has been compared with secondEval.
func evaluated(t *testing.T, p impl.Program, inputs []int, most int) impl.Outcome {
	t.Helper()
	got, want := impl.Eval(p, inputs, most), secondEval(p, inputs, most)
	if !sameOutcome(got, want) {
		t.Fatalf("Eval is %s, not %s, with at most %d steps, for %s", outcomeText(got), outcomeText(want), most, brief(impl.PrintProgram(p)))
	}
	if impl.Ends(got) != (got.Kind == impl.OutDone || got.Kind == impl.OutRaised) {
		t.Fatalf("Ends is %v for %s", impl.Ends(got), outcomeText(got))
	}
	return got
}

// outcomeText has the lines of the Trace, the Kind and the number of steps.
func outcomeText(o impl.Outcome) string {
	return briefOutcome(o) + " in " + impl.NumText(o.Steps)
}

// briefOutcome has the lines of the Trace, each followed by a bar, and the
// Kind, with N if it is not 0.
func briefOutcome(o impl.Outcome) string {
	kinds := map[int]string{0: "none", impl.OutDone: "done", impl.OutRaised: "raised", impl.OutSteps: "steps", impl.OutBad: "bad", impl.OutHeap: "heap"}
	text := strings.Join(append(append([]string{}, o.Trace...), kinds[o.Kind]), "|")
	if o.N != 0 {
		text += " " + impl.NumText(o.N)
	}
	return text
}

// checkEval checks the output of a program and how it ends: the text is that
// of briefOutcome.
func checkEval(t *testing.T, text string, want string, inputs ...int) {
	t.Helper()
	if got := briefOutcome(evaluated(t, parsed(t, text), inputs, impl.MaxSteps)); got != want {
		t.Errorf("%s: the outcome is %s, not %s", brief(text), got, want)
	}
}

// checkSteps checks the number of steps, too: the limit at which a program
// ends, and all below it.
func checkSteps(t *testing.T, text string, steps int, want string, inputs ...int) {
	t.Helper()
	checkEval(t, text, want, inputs...)
	p := parsed(t, text)
	whole := evaluated(t, p, inputs, impl.MaxSteps)
	if whole.Steps != steps {
		t.Errorf("%s: there are %d steps, not %d", brief(text), whole.Steps, steps)
	}
	for most := range whole.Steps + 3 {
		o := evaluated(t, p, inputs, most)
		if most >= whole.Steps {
			if !sameOutcome(o, whole) {
				t.Errorf("%s: the outcome is %s with at most %d steps", brief(text), outcomeText(o), most)
			}
			continue
		}
		if o.Kind != impl.OutSteps || o.N != 0 || o.Steps != most || !beginsWith(whole.Trace, o.Trace) {
			t.Errorf("%s: the outcome is %s with at most %d steps", brief(text), outcomeText(o), most)
		}
	}
}

func beginsWith(lines []string, first []string) bool {
	return len(first) <= len(lines) && sameLines(first, lines[:len(first)])
}
