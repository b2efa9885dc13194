package tests

import (
	"math"
	"slices"
	"strings"
	"testing"

	"loop.example/g00395/impl"
)

// checkFreeAt checks which names are free in the expression at an index: those
// in a list, and no others.
func checkFreeAt(t *testing.T, text string, at int, want string) {
	t.Helper()
	p := parsed(t, text)
	for _, name := range []string{"x", "y", "z", "f", "g", "print", "say", "read", "size", "other"} {
		if got := impl.FreeIn(p, at, name); got != slices.Contains(strings.Fields(want), name) {
			t.Errorf("FreeIn is %v for %s in node %d of %s", got, name, at, text)
		}
	}
}

func checkFree(t *testing.T, text string, want string) {
	t.Helper()
	checkFreeAt(t, text, 0, want)
}

func TestFreeNames(t *testing.T) {
	checkFree(t, "x", "x")
	checkFree(t, "print 1", "print")
	checkFree(t, "(x, (y, (x, z)))", "x y z")
	for _, text := range []string{"1", "()", "[]", "true", "A", `"x"`, `"print"`, "B 1", "(1, 2)"} {
		checkFree(t, text, "")
	}
	// No binding, but names in each of the children.
	for _, text := range []string{
		"x y", "x + y", "x ^ y", "x = y", "(x, y)", "x :: y", "x := y", "x; y", "if 1 then x else y", "if x then 1 else y", "if x then y else 1", "A (x, y)", "! (x y)", "ref (x, y)", "raise (x - y)",
		"match 1 with 1 -> x | _ -> y end", "match x with _ -> y end", "match x with 1 -> 2 | () -> y | _ -> 3 end",
	} {
		checkFree(t, text, "x y")
	}
	for _, text := range []string{"! x", "ref x", "raise x", "- x", "A x", "x :: []", "1 :: x", "fun y -> x", "let y = x in 1", "let y = 1 in x", "let rec f y = x in 1", "let rec f y = 1 in x", "try x with y -> 1 end", "try 1 with y -> x end"} {
		checkFree(t, text, "x")
	}
}

func TestFreeInFun(t *testing.T) {
	checkFree(t, "fun x -> x", "")
	checkFree(t, "fun x -> y", "y")
	checkFree(t, "fun x -> 1", "")
	checkFree(t, "fun x -> (x, (y, print z))", "y print z")
	checkFree(t, "fun x -> fun y -> (x, (y, z))", "z")
	checkFree(t, "fun x -> fun x -> x", "")
	checkFree(t, "(fun x -> x) x", "x")
	checkFree(t, "(x, fun x -> x)", "x")
	checkFree(t, "(fun x -> 1) x", "x")
	checkFree(t, "fun print -> print 1", "")
	checkFreeAt(t, "fun x -> (x, y)", 1, "x y")
	checkFreeAt(t, "fun x -> (x, y)", 2, "x")
	checkFreeAt(t, "fun x -> (x, y)", 3, "y")
}

// TestFreeInLet: the name is bound in the second child alone.
func TestFreeInLet(t *testing.T) {
	checkFree(t, "let x = 1 in x", "")
	checkFree(t, "let x = x in 1", "x")
	checkFree(t, "let x = x in x", "x")
	checkFree(t, "let x = y in x", "y")
	checkFree(t, "let x = 1 in y", "y")
	checkFree(t, "let x = 1 in 2", "")
	checkFree(t, "let x = 1 in let y = x in y", "")
	checkFree(t, "let x = let y = 1 in y in y", "y")
	checkFree(t, "let x = let x = 1 in x in 2", "")
	checkFree(t, "(let x = 1 in x, x)", "x")
	checkFree(t, "let print = print in print", "print")
	checkFree(t, "let print = say in print", "say")
	checkFreeAt(t, "let x = y in x", 1, "y")
	checkFreeAt(t, "let x = y in x", 2, "x")
	checkFreeAt(t, "1; let x = y in x", 2, "y")
}

// TestFreeInRec: the first name is bound in both children, that of the EFun in
// its body alone.
func TestFreeInRec(t *testing.T) {
	checkFree(t, "let rec f x = f x in f", "")
	checkFree(t, "let rec f x = f in 1", "")
	checkFree(t, "let rec f x = 1 in f", "")
	checkFree(t, "let rec f x = x in 1", "")
	checkFree(t, "let rec f x = 1 in x", "x")
	checkFree(t, "let rec f x = x in x", "x")
	checkFree(t, "let rec x x = x in x", "")
	checkFree(t, "let rec x y = x in (x, y)", "y")
	checkFree(t, "let rec f x = y in z", "y z")
	checkFree(t, "(let rec f x = f x in f) f", "f")
	checkFreeAt(t, "let rec f x = (f, (x, y)) in f", 1, "f y")
	checkFreeAt(t, "let rec f x = (f, (x, y)) in f", 2, "f x y")
	checkFreeAt(t, "let rec f x = (f, (x, y)) in (f, z)", 7, "f z")
	checkFreeAt(t, "let rec x x = x in x", 1, "")
	checkFreeAt(t, "let rec x x = x in x", 2, "x")
}

// TestFreeInTry: the name is bound in the second child alone.
func TestFreeInTry(t *testing.T) {
	checkFree(t, "try 1 with x -> x end", "")
	checkFree(t, "try x with x -> 1 end", "x")
	checkFree(t, "try x with x -> x end", "x")
	checkFree(t, "try 1 with x -> y end", "y")
	checkFree(t, "try y with x -> x end", "y")
	checkFree(t, "try try 1 with x -> x end with y -> x end", "x")
	checkFree(t, "try 1 with x -> try x with y -> x end end", "")
}

// TestFreeInMatch: the names of a pattern are bound in its own arm alone.
func TestFreeInMatch(t *testing.T) {
	checkFree(t, "match 1 with x -> x end", "")
	checkFree(t, "match x with x -> x end", "x")
	checkFree(t, "match x with x -> 1 end", "x")
	checkFree(t, "match 1 with x -> y end", "y")
	checkFree(t, "match 1 with x -> x | _ -> 2 end", "")
	checkFree(t, "match 1 with x -> 1 | _ -> x end", "x")
	checkFree(t, "match 1 with _ -> x | x -> 1 end", "x")
	checkFree(t, "match 1 with x -> x | y -> x end", "x")
	checkFree(t, "match 1 with x -> y | y -> x end", "x y")
	checkFree(t, "match 1 with x -> x | y -> y | z -> z end", "")
	checkFree(t, "match 1 with x -> x | y -> y | _ -> (x, (y, z)) end", "x y z")
	checkFree(t, "match match 1 with x -> x end with y -> x end", "x")
	checkFree(t, "match 1 with x -> match x with y -> (x, y) end end", "")
	for _, pat := range []string{"x", "(x, _)", "(_, x)", "A x", "x :: _", "_ :: x", "1 :: x", "A (B (y, x))", "((y, z), (f, (g, x)))", "y :: z :: x"} {
		checkFreeAt(t, "match other with "+pat+" -> x end", 0, "other")
		checkFreeAt(t, "match other with "+pat+" -> (x, say) end", 0, "other say")
	}
	for _, pat := range []string{"_", "1", "()", "A", "true", "[]", "y", "(y, _)", "A y", "(1, ())", "y :: z"} {
		checkFreeAt(t, "match other with "+pat+" -> x end", 0, "other x")
	}
}

// TestFreeAnywhere looks at a deep expression, and at the innermost one.
func TestFreeAnywhere(t *testing.T) {
	p := impl.Program{Nodes: refs(impl.MaxNodes-1, variable("x")).nodes(nil)}
	for at := range p.Nodes {
		if !impl.FreeIn(p, at, "x") || impl.FreeIn(p, at, "y") {
			t.Fatalf("FreeIn is not right for node %d", at)
		}
	}
	d := variable("x")
	for range impl.MaxNodes - 2 {
		d = node(impl.EFun, "y", d)
	}
	p = impl.Program{Nodes: node(impl.EFun, "x", d).nodes(nil)}
	if impl.FreeIn(p, 0, "x") || !impl.FreeIn(p, 1, "x") || !impl.FreeIn(p, impl.MaxNodes-1, "x") || impl.FreeIn(p, 1, "y") {
		t.Error("FreeIn is not right within functions")
	}
}

// TestFreeBadNames: no EVar has a name that is not NameOk. What has such an S
// is something else.
func TestFreeBadNames(t *testing.T) {
	p := parsed(t, `match A (1 + 2, "let") with _ -> (true, ("", "x y")) | (1, A) -> 1 :: [] | -1 -> "X" | () -> "abcdefghijklm" end`)
	for at := range p.Nodes {
		for _, name := range []string{"", "A", "X", "true", "[]", "::", "+", "let", "x y", "abcdefghijklm", "_", "1", "é", "x\n", "rec"} {
			if impl.FreeIn(p, at, name) {
				t.Errorf("%q is free in node %d", name, at)
			}
		}
	}
	for _, name := range []string{"", "X", "x ", "xx", "x'", "\x00"} {
		if impl.FreeIn(parsed(t, "x"), 0, name) {
			t.Errorf("%q is free in x", name)
		}
	}
	checkFree(t, `let y = "x" in (y, "z")`, "")
}

func TestFreeBadIndex(t *testing.T) {
	for _, text := range []string{"x", "(x, x)", "x x x", "let y = x in x"} {
		p := parsed(t, text)
		count := len(p.Nodes)
		for _, at := range []int{-1, -2, -count, math.MinInt, count, count + 1, 2 * count, impl.MaxNodes, math.MaxInt} {
			if impl.FreeIn(p, at, "x") {
				t.Errorf("x is free at index %d of %s", at, text)
			}
		}
		if !impl.FreeIn(p, 0, "x") || !impl.FreeIn(p, count-1, "x") {
			t.Errorf("x is not free in %s", text)
		}
	}
	p := roomyProgram(parsed(t, "x"))
	p.Nodes[:2][1] = impl.Node{Kind: impl.EVar, S: "x"}
	if impl.FreeIn(p, 1, "x") {
		t.Error("x is free behind the last node")
	}
}

// TestFreeBadProgram: what is wrong may be far from the node.
func TestFreeBadProgram(t *testing.T) {
	if impl.FreeIn(impl.Program{}, 0, "x") || impl.FreeIn(impl.Program{}, 0, "") {
		t.Error("a name is free in nothing")
	}
	for i, p := range brokenPrograms(t) {
		for at := -1; at <= len(p.Nodes); at++ {
			for _, name := range []string{"x", "y", ""} {
				if impl.FreeIn(p, at, name) {
					t.Errorf("%q is free at index %d of the broken program %d", name, at, i)
				}
			}
		}
	}
}

// TestFreeWithoutTypes: Infer may refuse the program.
func TestFreeWithoutTypes(t *testing.T) {
	for _, text := range []string{"x 1 + x ()", "1 x", "type t = A; type t = B; x", "type t = A of u; x", "Q x", "A (x; 1)", "fun y -> y y x"} {
		checkFree(t, text, "x")
	}
}

// TestFreeRandom compares FreeIn with the sets of the names that are free, for
// every expression in random programs.
func TestFreeRandom(t *testing.T) {
	counts := map[bool]int{}
	names := []string{"x", "y", "f", "print", "abcdefghijkl", "a_1", "x1", "ab2", "v_3", "", "A", "z"}
	for seed := range uint32(1200) {
		g := &lot{seed: seed}
		p := impl.Program{Nodes: g.expr(1 + g.next(40)).nodes(nil)}
		if seed%2 == 1 {
			p, _, _ = impl.Parse(newTeller(seed).program(40))
			names[11] = "tell"
		}
		draftAt(p, 0, func(at int, d *draft) *draft {
			free := d.freeNames()
			for _, name := range names {
				counts[free[name]]++
				if impl.FreeIn(p, at, name) != free[name] {
					t.Fatalf("FreeIn is not %v for %q at index %d of %s", free[name], name, at, impl.PrintProgram(p))
				}
			}
			return d
		})
	}
	if counts[true] < 10000 || counts[false] < 10000 {
		t.Errorf("names were free and not free so many times: %v", counts)
	}
}
