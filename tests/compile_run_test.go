package tests

import (
	"strings"
	"testing"

	"loop.example/g00395/impl"
)

// runner executes code on the values of the second evaluator: what is compiled
// does what the program says, so that addresses and counts are right.
type runner struct {
	code     impl.Code
	inputs   []int
	o        impl.Outcome
	at       int
	stack    []*thing
	env      []bound
	returns  []point
	handlers []point
}

// point is where execution goes on: an address with its bindings and, for a
// handler, the numbers of values and of calls.
type point struct {
	at     int
	env    []bound
	values int
	calls  int
}

// ranCode executes at most so many instructions.
func ranCode(c impl.Code, inputs []int, most int) impl.Outcome {
	r := &runner{code: c, inputs: inputs}
	for r.o.Kind == 0 {
		if r.o.Steps == most {
			r.stop(impl.OutSteps)
			break
		}
		r.o.Steps++
		r.at++
		r.run(c.Ins[r.at-1])
	}
	return r.o
}

func (r *runner) stop(kind int) { r.o.Kind = kind }

func (r *runner) push(v *thing) { r.stack = append(r.stack, v) }

func (r *runner) pop() *thing {
	v := r.stack[len(r.stack)-1]
	r.stack = r.stack[:len(r.stack)-1]
	return v
}

func (r *runner) raise(n int) {
	if len(r.handlers) == 0 {
		r.o.N = n
		r.stop(impl.OutRaised)
		return
	}
	h := r.handlers[len(r.handlers)-1]
	r.handlers = r.handlers[:len(r.handlers)-1]
	r.stack, r.returns = r.stack[:h.values], r.returns[:h.calls]
	r.at, r.env = h.at, bind(h.env, "", numeral(n))
}

// need stops with OutBad unless a value is right.
func (r *runner) need(ok bool) bool {
	if !ok {
		r.stop(impl.OutBad)
	}
	return ok
}

func (r *runner) run(i impl.Ins) {
	switch i.Op {
	case impl.OpInt:
		r.push(numeral(i.A))
	case impl.OpStr:
		r.push(&thing{kind: impl.EStr, s: i.S})
	case impl.OpUnit:
		r.push(unit())
	case impl.OpCon:
		v := &thing{kind: impl.ECon, s: i.S}
		if i.A == 1 {
			v.kids = []*thing{r.pop()}
		}
		r.push(v)
	case impl.OpPair:
		b, a := r.pop(), r.pop()
		r.push(&thing{kind: impl.EPair, kids: []*thing{a, b}})
	case impl.OpVar:
		r.push(r.env[len(r.env)-1-i.A].is)
	case impl.OpGiven:
		r.push(&thing{s: i.S})
	case impl.OpFun:
		r.push(&thing{kind: impl.EFun, at: i.A, env: r.env})
	case impl.OpRec:
		r.env = bind(r.env, "", &thing{kind: impl.EFun, at: i.A, env: r.env, self: "it"})
	case impl.OpCall:
		x, f := r.pop(), r.pop()
		r.call(f, x)
	case impl.OpRet:
		if len(r.returns) == 0 {
			r.stop(impl.OutDone)
			return
		}
		back := r.returns[len(r.returns)-1]
		r.returns = r.returns[:len(r.returns)-1]
		r.at, r.env = back.at, back.env
	case impl.OpJump:
		r.at = i.A
	case impl.OpIfNot:
		v := r.pop()
		if r.need(v.isCon("true") || v.isCon("false")) && v.s == "false" {
			r.at = i.A
		}
	default:
		r.runMore(i)
	}
}

func (r *runner) runMore(i impl.Ins) {
	switch i.Op {
	case impl.OpBind:
		r.env = bind(r.env, "", r.pop())
	case impl.OpDrop:
		r.env = r.env[:len(r.env)-i.A]
	case impl.OpPrim:
		b, a := r.pop(), r.pop()
		r.prim(i.S, a, b)
	case impl.OpRaise:
		if v := r.pop(); r.need(v.is(impl.EInt)) {
			r.raise(v.n)
		}
	case impl.OpTry:
		r.handlers = append(r.handlers, point{at: i.A, env: r.env, values: len(r.stack), calls: len(r.returns)})
	case impl.OpOk:
		r.handlers = r.handlers[:len(r.handlers)-1]
	case impl.OpArm:
		names := []bound{}
		if !fitting(r.code.Pats[i.A], 0, r.stack[len(r.stack)-1], &names) {
			r.at = i.B
			return
		}
		r.pop()
		r.env = append(r.env[:len(r.env):len(r.env)], names...)
	case impl.OpNoArm:
		r.raise(impl.ErrMatch)
	case impl.OpRef:
		r.push(&thing{kind: impl.ERef, kids: []*thing{r.pop()}})
	case impl.OpGet:
		if v := r.pop(); r.need(v.is(impl.ERef)) {
			r.push(v.kids[0])
		}
	case impl.OpSet:
		v, ref := r.pop(), r.pop()
		if r.need(ref.is(impl.ERef)) {
			ref.kids[0] = v
			r.push(unit())
		}
	case impl.OpPop:
		r.need(r.pop().is(impl.EUnit))
	}
}

func (r *runner) call(f *thing, x *thing) {
	if !f.is(impl.EFun) {
		r.callGiven(f, x)
		return
	}
	r.returns = append(r.returns, point{at: r.at, env: r.env})
	r.env = f.env
	if f.self != "" {
		r.env = bind(r.env, "", f)
	}
	r.at, r.env = f.at, bind(r.env, "", x)
}

func (r *runner) callGiven(f *thing, x *thing) {
	kinds := map[string]int{"print": impl.EInt, "say": impl.EStr, "read": impl.EUnit, "size": impl.EStr}
	if !r.need(f.is(0) && x.is(kinds[f.s])) {
		return
	}
	switch {
	case f.s == "size":
		r.push(numeral(len(x.s)))
	case f.s == "read" && len(r.inputs) == 0:
		r.raise(impl.ErrRead)
	case f.s == "read":
		r.push(numeral(impl.Wrap(r.inputs[0])))
		r.inputs = r.inputs[1:]
	default:
		r.o.Trace = append(r.o.Trace, map[string]string{"print": impl.NumText(x.n), "say": x.s}[f.s])
		r.push(unit())
	}
}

func (r *runner) prim(sign string, a *thing, b *thing) {
	bothTexts := a.is(impl.EStr) && b.is(impl.EStr) && sign == "^"
	if !r.need(bothTexts || a.is(impl.EInt) && b.is(impl.EInt) && sign != "^") {
		return
	}
	switch {
	case bothTexts && len(a.s+b.s) > impl.MaxStr:
		r.raise(impl.ErrSize)
	case bothTexts:
		r.push(&thing{kind: impl.EStr, s: a.s + b.s})
	case strings.Contains("/%", sign) && b.n == 0:
		r.raise(impl.ErrDiv)
	default:
		r.push(result(sign, a.n, b.n))
	}
}

// checkRan compares what the code of a program does with Eval. It returns how
// both end, or 0 if one of them does not.
func checkRan(t *testing.T, p impl.Program, c impl.Code, inputs []int) int {
	t.Helper()
	a, b := impl.Eval(p, inputs, impl.MaxSteps), ranCode(c, inputs, 60000)
	if a.Kind == impl.OutSteps || b.Kind == impl.OutSteps {
		if !beginsWith(a.Trace, b.Trace) && !beginsWith(b.Trace, a.Trace) {
			t.Fatalf("the outcome of the code is %s, not %s, for %s", outcomeText(b), outcomeText(a), brief(impl.PrintProgram(p)))
		}
		return 0
	}
	if briefOutcome(a) != briefOutcome(b) {
		t.Fatalf("the outcome of the code is %s, not %s, for %s", outcomeText(b), outcomeText(a), brief(impl.PrintProgram(p)))
	}
	return a.Kind
}

// TestCodeDoesWhatTheProgramSays has programs of every kind of node.
func TestCodeDoesWhatTheProgramSays(t *testing.T) {
	for _, text := range []string{
		everyRun, everyFold, everyForm, "1", "print 1; print 2", "let rec f x = if x < 1 then 0 else x + f (x - 1) in print (f 10)", "let rec f x = fun y -> if x < 1 then y else f (x - 1) (y * 2) in print (f 10 1)",
		"(try (print 1; raise 2) with e -> print e end); print 3", "try try raise 1 with x -> raise (x + 1) end with y -> print y end", "((match 1 with 2 -> () end); print 1)", "try match 1 with 2 -> () end with e -> print e end",
		"let rec f x = if x < 1 then raise 7 else 1 + f (x - 1) in print (1 + (try 2 + f 5 with e -> e * 10 end))", "match (1, 2 :: 3 :: []) with (a, b :: c :: _) -> print (a * 100 + b * 10 + c) | _ -> () end",
		"let x = 1 in let f = fun y -> x + y in let x = 10 in print (f x)", "fun x -> 1 / 0", "1 / 0", "read (); 1", "1 1", "if 1 then 2 else 3", "let r = ref 1 in (r := !r + 1; print (!r))", "say (\"a\" ^ \"b\"); print (size \"abc\")",
	} {
		p := parsed(t, text)
		c, ok := compiled(t, p)
		if !ok {
			t.Errorf("%s is not compiled", text)
			continue
		}
		for count := range 4 {
			checkRan(t, p, c, []int{3, 4, 5}[:count])
		}
	}
}
