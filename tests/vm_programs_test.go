package tests

import (
	"strings"
	"testing"

	"loop.example/g00395/impl"
)

// vmProgram is a typed program with its output, as text of briefOutcome, and
// with the least size of the heap with which it ends like this.
type vmProgram struct {
	text   string
	want   string
	least  int
	inputs []int
}

var vmPrograms = []vmProgram{
	{"1", "done", 0, nil},
	{"print (1 + 2)", "3|done", 0, nil},
	{`say ("a" ^ "b"); print (size "abc")`, "ab|3|done", 0, nil},
	{"let x = 1 in print x", "1|done", 1, nil},
	{"(fun x -> print x) 5", "5|done", 1, nil},
	{"let f = fun x -> print x in (f 1; f 2; f 3)", "1|2|3|done", 3, nil},
	{"match (1, 2) with (x, y) -> print (x + y) end", "3|done", 2, nil},
	{"match 3 :: [] with [] -> () | x :: r -> print (x + read ()) end", "7|done", 2, []int{4}},
	{"let rec fact n = if n < 1 then 1 else n * fact (n - 1) in print (fact 10)", "3628800|done", 24, nil},
	{"let rec go n = if n = 0 then say \"end\" else (let p = (n, n) in match p with (a, b) -> go (a - 1) end) in go 20", "end|done", 124, nil},
	{"let rec sum l = match l with [] -> 0 | x :: r -> x + sum r end in print (sum (1 :: 2 :: 3 :: 4 :: []))", "10|done", 28, nil},
	{"let rec upto n = if n < 1 then [] else n :: upto (n - 1) in let rec each l = match l with [] -> () | x :: r -> (print x; each r) end in each (upto 4)", "4|3|2|1|done", 30, nil},
	// References that are shared, and set to values that lead back to them.
	{"let r = ref 0 in let f = fun x -> (x, r) in let a = f 1 in let a = f 2 in let a = f 3 in (match a with (x, s) -> s := x end); print (!r)", "3|done", 12, nil},
	{"let r = ref (fun x -> x) in (r := (fun n -> if n < 1 then 0 else n + (!r) (n - 1)); print ((!r) 4))", "10|done", 8, nil},
	{"type t = N | C of int * t ref; let a = ref N in let b = C (1, a) in (a := C (2, ref b); match !a with N -> () | C (x, s) -> match !s with N -> () | C (y, q) -> match !q with N -> () | C (z, _) -> print (x * 100 + y * 10 + z) end end end)", "212|done", 13, nil},
	{"let r = ref 1 in let rec loop n = if n < 1 then () else (r := !r + !r; loop (n - 1)) in (loop 10; print (!r))", "1024|done", 26, nil},
	// Exceptions.
	{"try print (7 / 0) with e -> (print e; raise (e - 1)) end", "-2|raised -3", 1, nil},
	{"let f = fun x -> if x = 0 then raise 9 else x in print (try f 0 + 1 with e -> e * 2 end); print (f 3)", "18|3|done", 3, nil},
	{"let rec deep n = if n < 1 then raise 5 else 1 + deep (n - 1) in print (try deep 8 with e -> e * 100 end); print (try deep 3 with e -> e end)", "500|5|done", 20, nil},
	{"print (try read () + (try read () with e -> 100 end) with e -> e end)", "103|done", 1, []int{3}},
	{"print (try match 3 with 1 -> 1 | 2 -> 2 end with e -> e - 10 end)", "-11|done", 1, nil},
	// Dead cells in great numbers.
	{"let r = ref [] in let f = fun x -> (r := x :: []; r := []) in (f 1; f 2; f 3; f 4; f 5; f 6; f 7; f 8; print 9)", "9|done", 7, nil},
	{"let f = fun x -> let p = ((x, x), (x, x)) in match p with ((a, b), (c, d)) -> print (a + b + c + d) end in (f 1; f 2; f 3; f 4)", "4|8|12|16|done", 11, nil},
	{everyRun, "10|-3|none|ab|3|-3|-1|done", 16, []int{4, -1}},
}

// TestVmPrograms runs programs in heaps of every size, and compares them with
// the evaluator.
func TestVmPrograms(t *testing.T) {
	for _, e := range vmPrograms {
		p := parsed(t, e.text)
		if _, code, _ := impl.Infer(p); code != 0 {
			t.Errorf("%s has no type", brief(e.text))
		}
		if got := briefOutcome(evaluated(t, p, e.inputs, impl.MaxSteps)); got != e.want {
			t.Errorf("%s is evaluated to %s", brief(e.text), got)
		}
		checkLeastOf(t, compiledText(t, e.text), e.text, e.least, e.want, e.inputs...)
	}
}

// TestVmProgramsWithEveryLimit has all limits of steps in heaps that are just
// great enough, or have a cell less.
func TestVmProgramsWithEveryLimit(t *testing.T) {
	for _, e := range vmPrograms {
		c := compiledText(t, e.text)
		whole := ran(t, c, e.inputs, impl.MaxSteps, e.least)
		for _, size := range []int{e.least, e.least - 1, e.least / 2, e.least + 1} {
			before := ran(t, c, e.inputs, 0, size)
			for most := 1; most < whole.Steps+2; most++ {
				o := ran(t, c, e.inputs, most, size)
				checkLater(t, c, before, o, impl.OutSteps)
				if size >= e.least && most >= whole.Steps && !sameOutcome(o, whole) {
					t.Errorf("%s: the outcome is %s with at most %d steps", brief(e.text), outcomeText(o), most)
				}
				before = o
			}
		}
	}
}

// TestVmLongRuns has programs that go on for all of MaxSteps steps in a heap
// that is much smaller than what they create, or run out of space.
func TestVmLongRuns(t *testing.T) {
	// A heap of cells that all live, but for a few.
	grown := "rec 0; drop 1; " + strings.Repeat("rec 0; ", 1990) + "l: rec 0; drop 1; jump @l"
	for size, want := range map[int]string{impl.MaxCells: "steps in 20000", 3982: "steps in 20000", 3981: "heap in 1993", 3980: "heap in 1993", 3979: "heap in 1992"} {
		if got := outcomeText(impl.RunCode(codeOf(t, grown, ""), nil, impl.MaxSteps, size)); got != want {
			t.Errorf("the outcome is %s, not %s, with %d cells", got, want, size)
		}
	}
	rounds := codeOf(t, "int 0; ref; bind; l: var 0; var 0; get; int 1; prim +; set; pop; var 0; var 0; pair; arm 0 @l; given print; var 0; get; call; pop; drop 2; jump @l", "(x, y)")
	for size, want := range map[int]int{3: 0, 4: 1111, 5: 1111, 100: 1111, impl.MaxCells: 1111} {
		o := ran(t, rounds, nil, impl.MaxSteps, size)
		if len(o.Trace) != want || want > 0 && (o.Kind != impl.OutSteps || o.Trace[want-1] != impl.NumText(want)) {
			t.Errorf("the outcome is %s with %d cells", brief(outcomeText(o)), size)
		}
	}
	// Runs of more steps than the evaluator needs, or less.
	loop := "let rec f x = (print x; f (x + 1)) in f 0"
	for _, most := range []int{0, 10, 1000, impl.MaxSteps} {
		e := evaluated(t, parsed(t, loop), nil, most)
		for _, size := range []int{0, 1, 10, 1000, impl.MaxCells} {
			if o := ran(t, compiledText(t, loop), nil, most, size); !agrees(e, o) || impl.Ends(o) {
				t.Errorf("the outcome is %s, not %s", brief(outcomeText(o)), brief(outcomeText(e)))
			}
		}
	}
}

// TestVmFarBindings: an OpVar may count MaxCode bindings. Code that counts more
// is not valid, although it was compiled.
func TestVmFarBindings(t *testing.T) {
	const names = 151
	ins := []string{}
	for i := range names {
		ins = append(ins, "int "+impl.NumText(i+1))
	}
	ins = append(ins, strings.Repeat("pair; ", names-1)+"bind")
	for i := range 20 {
		ins = append(ins, "var "+impl.NumText(names*i)+"; arm 0 0")
	}
	c := codeOf(t, strings.Join(ins, "; ")+"; given print; var 3000; call; pop; given print; var 0; call; pop; drop 3000; given print; var 19; call; pop; drop 21; drop 3000; ret", "_")
	c.Pats = []impl.Pat{{Nodes: widePair(names - 1).nodes(nil)}}
	for size, want := range map[int]string{21*names - 1: "heap", 21 * names: "20|151|1|bad", impl.MaxCells: "20|151|1|bad"} {
		if got := briefOutcome(ran(t, c, nil, impl.MaxSteps, size)); got != want {
			t.Errorf("the outcome is %s, not %s, with %d cells", got, want, size)
		}
	}
	// The greatest count that is valid, and one more.
	for more := range 2 {
		whole := repeated(10, variable("x"), func(d *draft) *draft { return wide(300, d) })
		p := impl.Program{Nodes: node(impl.EFun, "x", repeated(more, whole, func(d *draft) *draft { return node(impl.EFun, "y", d) })).nodes(nil)}
		c, ok := compiled(t, p)
		if o := ran(t, c, nil, 100, 100); !ok || o.Kind != map[int]int{0: impl.OutDone, 1: 0}[more] {
			t.Errorf("with a count of MaxCode and %d, the outcome is %s", more, outcomeText(o))
		}
	}
}
