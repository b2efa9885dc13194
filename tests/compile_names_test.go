package tests

import (
	"strings"
	"testing"

	"loop.example/g00395/impl"
)

// checkCounts checks the counts of the names in a program, or the predefined
// names, in the order of the instructions.
func checkCounts(t *testing.T, text string, want string) {
	t.Helper()
	c, ok := compiled(t, parsed(t, text))
	words := []string{}
	for _, i := range c.Ins {
		switch i.Op {
		case impl.OpVar:
			words = append(words, impl.NumText(i.A))
		case impl.OpGiven:
			words = append(words, i.S)
		}
	}
	if got := strings.Join(words, " "); !ok || got != want {
		t.Errorf("%s: the names are %q, not %q", text, got, want)
	}
}

func TestCountsInFun(t *testing.T) {
	checkCounts(t, "fun x -> x", "0")
	checkCounts(t, "fun x -> fun y -> (x, y)", "1 0")
	checkCounts(t, "fun x -> fun y -> fun z -> (x, (y, z))", "2 1 0")
	checkCounts(t, "fun x -> (fun y -> x, fun z -> x)", "1 1")
	checkCounts(t, "fun x -> (fun y -> x) x", "1 0")
}

// TestCountsInRec: the first name is bound in both children, that of the EFun
// inside it and in its body alone.
func TestCountsInRec(t *testing.T) {
	checkCounts(t, "let rec f x = (f, x) in f", "1 0 0")
	checkCounts(t, "fun y -> let rec f x = (f, (x, y)) in (f, y)", "1 0 2 0 1")
	checkCounts(t, "let rec f x = fun y -> (f, (x, y)) in fun z -> (f, z)", "2 1 0 1 0")
	checkCounts(t, "let rec f x = 1 in let rec g y = (f, (g, y)) in (f, g)", "2 1 0 1 0")
	checkCounts(t, "let rec f f = f in f", "0 0")
	checkCounts(t, "fun x -> let rec f x = x in (f, x)", "0 0 1")
}

func TestCountsInLet(t *testing.T) {
	checkCounts(t, "let x = 1 in x", "0")
	checkCounts(t, "let x = print in x", "print 0")
	checkCounts(t, "let x = 1 in let y = x in (x, y)", "0 1 0")
	checkCounts(t, "let x = 1 in let y = 2 in let z = (x, y) in (x, (y, z))", "1 0 2 1 0")
	checkCounts(t, "let x = let y = 1 in y in x", "0 0")
}

func TestCountsInTry(t *testing.T) {
	checkCounts(t, "try print with x -> (x, say) end", "print 0 say")
	checkCounts(t, "fun x -> try x with y -> (x, y) end", "0 1 0")
	checkCounts(t, "fun x -> try try x with y -> (x, y) end with z -> (x, z) end", "0 1 0 1 0")
	checkCounts(t, "fun x -> try 1 with y -> try (x, y) with z -> (x, (y, z)) end end", "1 0 2 1 0")
}

// TestCountsInMatch: the names of a pattern are bound in the order of its
// nodes, and only in its own arm.
func TestCountsInMatch(t *testing.T) {
	checkCounts(t, "match 1 with x -> x end", "0")
	checkCounts(t, "match 1 with (a, b) -> (a, b) end", "1 0")
	checkCounts(t, "match 1 with (a, (b, c)) -> (a, (b, c)) end", "2 1 0")
	checkCounts(t, "match 1 with ((a, b), c) -> (c, (b, a)) end", "0 1 2")
	checkCounts(t, "match 1 with a :: b :: _ -> (b, a) | (_, c) -> c | d -> d end", "0 1 0 0")
	checkCounts(t, "match 1 with A (B (b, 1), (a, ())) -> (a, b) end", "0 1")
	checkCounts(t, "match 1 with (zz, (_, (a, (1, m)))) -> (a, (m, zz)) end", "1 0 2")
	checkCounts(t, "fun x -> match x with _ -> x | 1 -> x | y -> (x, y) | (y, z) -> (x, (y, z)) | A -> x end", "0 0 0 1 0 2 1 0 0")
	checkCounts(t, "fun x -> match x with (y, z) -> x | y -> x | _ -> x end", "0 2 1 0")
	checkCounts(t, "fun x -> match x with (y, z) -> match (x, (y, z)) with (v, w) -> (x, (y, (z, (v, w)))) end end", "0 2 1 0 4 3 2 1 0")
	checkCounts(t, "fun x -> match match x with y -> (x, y) end with z -> (x, z) end", "0 1 0 1 0")
}

// TestCountsOfTheInnerBinding: of a name that is bound twice.
func TestCountsOfTheInnerBinding(t *testing.T) {
	checkCounts(t, "fun x -> fun x -> x", "0")
	checkCounts(t, "fun x -> fun y -> fun x -> (x, y)", "0 1")
	checkCounts(t, "let x = 1 in let x = x in x", "0 0")
	checkCounts(t, "let x = 1 in try x with x -> x end", "0 0")
	checkCounts(t, "let x = 1 in match x with (x, y) -> (x, y) | z -> (x, z) end", "0 1 0 1 0")
	checkCounts(t, "let x = 1 in let rec x y = (x, y) in x", "1 0 0")
	checkCounts(t, "let x = 1 in let rec f x = (f, x) in (f, x)", "1 0 0 1")
	checkCounts(t, "fun x -> fun x -> fun y -> fun y -> (x, y)", "2 0")
	checkCounts(t, "match 1 with (x, y) -> match 2 with (y, x) -> (x, y) end end", "0 1")
}

// TestCountsOfPredefinedNames: they are names like others when they are bound
// again.
func TestCountsOfPredefinedNames(t *testing.T) {
	checkCounts(t, "(print, (say, (read, size)))", "print say read size")
	checkCounts(t, "fun x -> (print, x)", "print 0")
	checkCounts(t, "let print = 1 in print", "0")
	checkCounts(t, "let print = print in print", "print 0")
	checkCounts(t, "let print = say in (print, say)", "say 0 say")
	checkCounts(t, "fun say -> fun x -> (say, print)", "1 print")
	checkCounts(t, "let rec read x = read in read", "1 0")
	checkCounts(t, "let rec f read = read in read", "0 read")
	checkCounts(t, "match size with size -> size | (_, x) -> size end", "size 0 size")
	checkCounts(t, "try print with print -> print end", "print 0")
	checkCounts(t, "(let print = 1 in print, print)", "0 print")
}

// TestCountsAfterABinding: a binding has no influence after its end.
func TestCountsAfterABinding(t *testing.T) {
	checkCounts(t, "let x = 1 in ((let x = 2 in x), x)", "0 0")
	checkCounts(t, "let x = 1 in ((let y = 2 in (x, y)), x)", "1 0 0")
	checkCounts(t, "fun x -> ((fun y -> (x, y)), x)", "1 0 0")
	checkCounts(t, "fun x -> (try x with y -> x end, x)", "0 1 0")
	checkCounts(t, "fun x -> (match x with (y, z) -> x end, x)", "0 2 0")
	checkCounts(t, "fun x -> ((let rec f y = x in x), x)", "2 1 0")
	checkCounts(t, "fun x -> if (fun y -> x) 1 then (let y = x in x) else ((match x with (y, z) -> x end); x)", "1 0 1 0 2 0")
	checkCounts(t, "let x = fun y -> y in let z = (let w = 1 in x) in x", "0 1 1")
	checkCounts(t, "fun x -> let y = fun z -> (x, z) in (x, y)", "1 0 1 0")
}

// TestCountsOfManyBindings has every name of many bindings of one kind.
func TestCountsOfManyBindings(t *testing.T) {
	const count = 100
	for _, form := range []func(name string, d *draft) *draft{
		func(name string, d *draft) *draft { return node(impl.EFun, name, d) },
		func(name string, d *draft) *draft { return node(impl.ELet, name, one(), d) },
		func(name string, d *draft) *draft { return node(impl.ETry, name, one(), d) },
		func(name string, d *draft) *draft { return node(impl.ERec, name, node(impl.EFun, name, one()), d) },
		func(name string, d *draft) *draft {
			match := node(impl.EMatch, "", one())
			armDraft(&patDraft{PNode: pnode(impl.PVar, 0, name)}, d, match)
			return match
		},
	} {
		d := variable("v0")
		for i := range count - 1 {
			d = node(impl.EPair, "", d, variable("v"+impl.NumText(i+1)))
		}
		for i := range count {
			d = form("v"+impl.NumText(i), d)
		}
		c, ok := compiled(t, impl.Program{Nodes: d.nodes(nil)})
		next := 0
		for _, i := range c.Ins {
			if i.Op == impl.OpVar {
				if i.A != next {
					t.Fatalf("the name %d has the count %d", next, i.A)
				}
				next++
			}
		}
		if !ok || next != count {
			t.Errorf("there are %d names", next)
		}
	}
}

// TestNoCodeForUnknownNames: a name that is neither bound nor predefined is not
// compiled, even where it is never evaluated.
func TestNoCodeForUnknownNames(t *testing.T) {
	for _, text := range []string{
		"x", "prin", "prints", "tell", "error", "x 1", "1 x", "(x, x)", "fun x -> y", "fun y -> fun z -> x", "(fun x -> x) x", "x (fun x -> x)", "let x = x in 1", "let x = 1 in y", "(let x = 1 in x, x)", "let x = y in let y = 1 in x",
		"let rec f x = g in f", "let rec f x = 1 in x", "let rec f x = f in let rec g y = x in f", "(let rec f x = x in f) f", "try x with x -> 1 end", "try 1 with x -> y end", "(try 1 with x -> x end, x)",
		"match x with x -> 1 end", "match 1 with x -> y | y -> 1 end", "match 1 with (x, y) -> 1 | _ -> x end", "match 1 with _ -> y | (x, y) -> x end", "(match 1 with x -> x end, x)", "match 1 with A -> a | B -> 1 end",
		"if true then 1 else x", "if false then x else 1", "let f = fun y -> x in 1", "fun z -> x", "match 1 with 1 -> 1 | 2 -> x end", "try 1 with e -> x end", "raise 1; x", "let rec f y = x in 1", "match 1 with _ -> 1 | _ -> x end",
		"print print_", "size saySize", "say a",
	} {
		checkNoCode(t, text, parsed(t, text))
	}
}

// TestNoCodeForUnknownNamesAnywhere puts an unknown name in place of every leaf.
func TestNoCodeForUnknownNamesAnywhere(t *testing.T) {
	for _, text := range []string{everyForm, everyRun, everyFold} {
		p := parsed(t, text)
		if _, ok := compiled(t, p); !ok {
			t.Fatalf("%s is not compiled", brief(text))
		}
		count := 0
		for at, n := range p.Nodes {
			if len(n.Kids) > 0 {
				continue
			}
			q := cloned(p)
			q.Nodes[at] = impl.Node{Kind: impl.EVar, S: "nowhere"}
			if !impl.ProgramOk(q) {
				t.Fatalf("the program is not valid with a name at index %d", at)
			}
			checkNoCode(t, impl.PrintProgram(q), q)
			q.Nodes[at].S = "read"
			if _, ok := compiled(t, q); !ok {
				t.Errorf("%s is not compiled", brief(impl.PrintProgram(q)))
			}
			count++
		}
		if count < 10 {
			t.Errorf("%s has only %d leaves", brief(text), count)
		}
	}
}

// TestNamesThatAreNoNames: strings and constructors may look like names.
func TestNamesThatAreNoNames(t *testing.T) {
	checkCode(t, `let x = "y" in ("x", x)`, `0 str "y"; 1 bind; 2 str "x"; 3 var 0; 4 pair; 5 drop 1`)
	checkCode(t, `say "print"`, `0 given say; 1 str "print"; 2 call`)
	checkCode(t, "Print", "0 con 0 Print")
}
