package tests

import (
	"math"
	"reflect"
	"slices"
	"strings"
	"testing"

	"loop.example/g00395/impl"
)

// TestEvalClampsTheLimit has limits below 0 and above MaxSteps.
func TestEvalClampsTheLimit(t *testing.T) {
	loop := parsed(t, "let rec f x = (print x; f (x + 1)) in f 0")
	for _, most := range []int{0, -1, -5, impl.MinInt, math.MinInt} {
		for _, p := range []impl.Program{loop, parsed(t, "1"), parsed(t, "q"), parsed(t, "1 1")} {
			if o := evaluated(t, p, []int{1}, most); o.Kind != impl.OutSteps || o.N != 0 || o.Steps != 0 || len(o.Trace) > 0 {
				t.Errorf("the outcome is %s with at most %d steps", outcomeText(o), most)
			}
		}
	}
	whole := evaluated(t, loop, nil, impl.MaxSteps)
	if whole.Kind != impl.OutSteps || whole.Steps != 20000 || len(whole.Trace) < 2000 {
		t.Errorf("the outcome of a loop has %d lines after %d steps", len(whole.Trace), whole.Steps)
	}
	for _, most := range []int{20001, 20002, 100000, impl.MaxInt, math.MaxInt} {
		if o := evaluated(t, loop, nil, most); !sameOutcome(o, whole) {
			t.Errorf("there are %d steps with at most %d", o.Steps, most)
		}
		if o := evaluated(t, parsed(t, "1"), nil, most); o.Kind != impl.OutDone || o.Steps != 1 {
			t.Errorf("the outcome is %s with at most %d steps", outcomeText(o), most)
		}
	}
	if o := evaluated(t, loop, nil, 19999); o.Steps != 19999 || !beginsWith(whole.Trace, o.Trace) {
		t.Errorf("there are %d steps with one less than MaxSteps", o.Steps)
	}
}

// TestEvalEndsAtTheLimit has programs that need MaxSteps steps, and one more.
func TestEvalEndsAtTheLimit(t *testing.T) {
	// A call takes 9 steps, the last one 5, the let rec and its call 5.
	const program = "let rec f x = if x < 1 then 0 else f (x - 1) in f 2221"
	if steps := evaluated(t, parsed(t, program), nil, impl.MaxSteps).Steps; steps != 2221*9+10 {
		t.Fatalf("there are %d steps", steps)
	}
	checkSteps(t, "let rec f x = if x < 1 then 0 else f (x - 1) in f 200", 200*9+10, "done")
	wanted := impl.MaxSteps - 2221*9 - 10
	if wanted != 1 {
		t.Fatalf("%d steps are left", wanted)
	}
	exact := parsed(t, "ref ("+program+")")
	if o := evaluated(t, exact, nil, impl.MaxSteps); o.Kind != impl.OutDone || o.Steps != impl.MaxSteps {
		t.Errorf("the outcome is %s", outcomeText(o))
	}
	if o := evaluated(t, exact, nil, impl.MaxSteps-1); o.Kind != impl.OutSteps || o.Steps != impl.MaxSteps-1 {
		t.Errorf("the outcome is %s with one step less", outcomeText(o))
	}
	if o := evaluated(t, parsed(t, "ref (ref ("+program+"))"), nil, math.MaxInt); o.Kind != impl.OutSteps || o.Steps != impl.MaxSteps {
		t.Errorf("the outcome is %s with one step too many", outcomeText(o))
	}
}

// TestEvalDeepRecursion has calls within calls up to the limit.
func TestEvalDeepRecursion(t *testing.T) {
	for _, text := range []string{
		"let rec f x = 1 + f x in f 0", "let rec f x = f x + 1 in f 0", "let rec f x = f (f x) in f 0", "let rec f x = ref (f x) in f 0", "let rec f x = (f x, f x) in f 0",
		"let rec f x = x :: f x in f 0", "let rec f x = try f x with e -> 1 end in f 0", "let rec f x = let y = f x in y in f 0", "let rec f x = (f x; x) in f 0", "(fun x -> x x) (fun x -> x x)",
		"let rec f x = match f x with y -> y end in f 0", "let rec f x = if f x then 1 else 2 in f 0", "let rec f x = raise (f x) in f 0", "let r = ref (fun x -> x) in (r := (fun x -> (!r) x + 1); (!r) 1)",
		"let rec f x = let rec g y = f y + 1 in g x in f 0", "let rec f x = let y = (x, x) in f y in f 0", "let rec f x = f (x :: x) in f []",
	} {
		if o := evaluated(t, parsed(t, text), nil, math.MaxInt); o.Kind != impl.OutSteps || o.Steps != impl.MaxSteps {
			t.Errorf("%s: the outcome is %s", text, outcomeText(o))
		}
	}
	checkEval(t, "let rec f x = if x < 1 then raise 1 else 1 + f (x - 1) in f 1000", "raised 1")
	checkEval(t, "let rec f x = if x < 1 then raise 0 else try f (x - 1) with e -> raise (e + 1) end in f 1000", "raised 1000")
	checkEval(t, "let rec f x = if x < 1 then raise 0 else try 1 + f (x - 1) with e -> e + 1 end in print (f 1000)", "1000|done")
	checkEval(t, "let rec f x = if x < 1 then [] else x :: f (x - 1) in match f 1000 with a :: b :: _ -> print (a - b) | _ -> print 0 end", "1|done")
}

// TestEvalBadPrograms: for a program that is not valid there is nothing, not
// even for a limit of 0.
func TestEvalBadPrograms(t *testing.T) {
	check := func(p impl.Program) {
		t.Helper()
		for _, most := range []int{-1, 0, 1, 100, math.MaxInt} {
			if o := impl.Eval(p, []int{1, 2}, most); !reflect.DeepEqual(o, impl.Outcome{}) && (o.Kind != 0 || o.N != 0 || o.Steps != 0 || len(o.Trace) > 0) {
				t.Errorf("the outcome is %s for %v", outcomeText(o), brief(impl.PrintProgram(p)))
			}
		}
	}
	check(impl.Program{})
	check(impl.Program{Nodes: []impl.Node{}})
	check(impl.Program{Types: parsed(t, "type t = A; 1").Types})
	for _, n := range []impl.Node{
		{}, {Kind: 20}, {Kind: -1}, {Kind: impl.EInt, N: -1}, {Kind: impl.EInt, N: impl.MaxInt + 1}, {Kind: impl.EInt, S: "x"}, {Kind: impl.EUnit, At: -1}, {Kind: impl.EUnit, N: 1}, {Kind: impl.EVar}, {Kind: impl.EVar, S: "X"},
		{Kind: impl.EUnit, Kids: []int{0}}, {Kind: impl.ERef}, {Kind: impl.ERef, Kids: []int{0}}, {Kind: impl.ERef, Kids: []int{1}}, {Kind: impl.ERef, Kids: []int{-1}}, {Kind: impl.EMatch}, {Kind: impl.ECon, S: "a"}, {Kind: impl.ECon, S: "::"},
		{Kind: impl.EUnit, Pats: []impl.Pat{{Nodes: []impl.PNode{{Kind: impl.PWild}}}}},
	} {
		check(impl.Program{Nodes: []impl.Node{n}})
	}
	check(impl.Program{Nodes: slices.Concat(unitNodes(), unitNodes())})
	check(impl.Program{Nodes: node(impl.EPrim, "&", one(), one()).nodes(nil)})
	check(impl.Program{Nodes: node(impl.ERec, "f", one(), one()).nodes(nil)})
	check(impl.Program{Nodes: node(impl.ECon, "::", one()).nodes(nil)})
	check(impl.Program{Nodes: node(impl.EIf, "", one(), one()).nodes(nil)})
	check(impl.Program{Nodes: node(impl.EApp, "", one()).nodes(nil)})
	check(impl.Program{Nodes: refs(impl.MaxNodes, one()).nodes(nil)})
	if o := evaluated(t, impl.Program{Nodes: refs(impl.MaxNodes-1, one()).nodes(nil)}, nil, 600); o.Kind != impl.OutDone || o.Steps != 600 {
		t.Errorf("the outcome of MaxNodes nodes is %s", outcomeText(o))
	}
	// Every part counts, whether it is evaluated or not.
	wrong := parsed(t, "if true then print 1 else print 2")
	wrong.Nodes[len(wrong.Nodes)-1].S = "x"
	check(wrong)
	wrong = parsed(t, "match 1 with 1 -> print 1 | 2 -> print 2 end")
	wrong.Nodes[0].Pats[1].Nodes[0].Kind = 9
	check(wrong)
	wrong = parsed(t, "type t = A; print 1")
	wrong.Types[0].Name = "T"
	check(wrong)
}

// TestEvalUntypedPrograms has programs that Infer refuses.
func TestEvalUntypedPrograms(t *testing.T) {
	for _, e := range [][2]string{
		{"type t = A; type t = B; print 1", "1|done"},
		{"type int = A; print 1", "1|done"},
		{"type t = A | A of int; match A 5 with A -> print 1 | A x -> print x end", "5|done"},
		{"type t = A of u; print 1", "1|done"},
		{"type t = A of (t, t) t; A", "done"},
		{"match Unknown 3 with Unknown x -> print x end", "3|done"},
		{"type t = A; match A 3 with A x -> print x end", "3|done"},
		{"let x = ref [] in (x := 1 :: !x; x := true :: !x; match !x with true :: 1 :: [] -> print 1 end)", "1|done"},
		{"(fun f -> (f 1, f ())) (fun x -> x)", "done"},
		{"(fun x -> x x) (fun x -> x) 1", "done"},
		{"let rec f x = if x < 1 then say \"end\" else f in f 1 0", "end|done"},
		{"if 1 < 2 then 1 else ()", "done"},
		{"try () with x -> 1 end", "done"},
		{"1 :: 2 :: 3", "done"},
	} {
		if _, code, _ := impl.Infer(parsed(t, e[0])); code == 0 {
			t.Errorf("%s has a type", e[0])
		}
		checkEval(t, e[0], e[1])
	}
}

// TestEvalIgnoresPlaces: the offsets have no influence, nor do the types.
func TestEvalIgnoresPlaces(t *testing.T) {
	for seed := range uint32(300) {
		m := newTeller(seed)
		p, code, _ := impl.Parse(m.program(40))
		if code != 0 {
			continue
		}
		want := evaluated(t, p, []int{1, 2}, 2000)
		places := moved(cloned(p), func(at int) int { return (at*7919 + int(seed)) % 1000 })
		if got := evaluated(t, places, []int{1, 2}, 2000); !sameOutcome(got, want) {
			t.Fatalf("the outcome is %s, not %s", outcomeText(got), outcomeText(want))
		}
		if got := evaluated(t, impl.Program{Nodes: p.Nodes}, []int{1, 2}, 2000); !sameOutcome(got, want) {
			t.Fatalf("the outcome is %s, not %s", outcomeText(got), outcomeText(want))
		}
	}
}

// everyRun has all kinds of nodes, reads and prints.
const everyRun = `type t = A | B of int; let r = ref (read ()) in let rec f x = if x < 1 then 0 else x + f (x - 1) in let g = fun p -> match p with (x, B y) :: _ -> print (x - y) | _ -> say "none" end in
	(print (f (!r)); r := read (); g ((!r, B 2) :: []); g []; say ("a" ^ "b"); print (size "abc"); (try print (read ()) with e -> print e end); print (- 1))`

// TestEvalLeavesItsArguments: nothing is changed or kept, and what is done to
// a result has no influence.
func TestEvalLeavesItsArguments(t *testing.T) {
	p := roomyProgram(parsed(t, everyRun))
	inputs := roomy([]int{4, math.MaxInt}, 55)
	program, numbers := stretched(p), slices.Clone(inputs[:cap(inputs)])
	want := []string{"10", "-3", "none", "ab", "3", "-3", "-1"}
	for range 2 {
		for _, most := range []int{30, impl.MaxSteps} {
			o := impl.Eval(p, inputs, most)
			if !beginsWith(want, o.Trace) || most == impl.MaxSteps && (o.Kind != impl.OutDone || len(o.Trace) != len(want)) {
				t.Errorf("the outcome is %s", outcomeText(o))
			}
			for i := range o.Trace[:cap(o.Trace)] {
				o.Trace[:cap(o.Trace)][i] = "spoilt"
			}
		}
	}
	if !reflect.DeepEqual(stretched(p), program) || !slices.Equal(inputs[:cap(inputs)], numbers) {
		t.Error("an argument has changed")
	}
	first, second := impl.Eval(p, inputs, impl.MaxSteps), impl.Eval(p, inputs, impl.MaxSteps)
	first.Trace = append(first.Trace, "more")
	first.Trace[0] = "other"
	if !slices.Equal(second.Trace, want) {
		t.Errorf("another result is changed to %s", strings.Join(second.Trace, "|"))
	}
	inputs[0], inputs[1] = 0, 0
	p.Nodes[0].S = "q"
	if !slices.Equal(second.Trace, want) {
		t.Errorf("the result has changed to %s", strings.Join(second.Trace, "|"))
	}
	empty := parsed(t, "try read () with e -> (print e; e) end")
	if a, b := evaluated(t, empty, nil, 100), evaluated(t, empty, []int{}, 100); !sameOutcome(a, b) || briefOutcome(a) != "-3|done" {
		t.Errorf("the outcomes are %s and %s without inputs", outcomeText(a), outcomeText(b))
	}
}

// TestEvalKeepsNothing: a call does not depend on the calls before it.
func TestEvalKeepsNothing(t *testing.T) {
	p, other := parsed(t, everyRun), parsed(t, "let rec f x = (say \"x\"; read (); f x) in f 1")
	want := evaluated(t, p, []int{3}, impl.MaxSteps)
	for most := range 100 {
		evaluated(t, other, []int{1, 2, 3, 4, 5}, most)
		if got := evaluated(t, p, []int{3}, impl.MaxSteps); !sameOutcome(got, want) {
			t.Fatalf("the outcome is %s, not %s", outcomeText(got), outcomeText(want))
		}
	}
}
