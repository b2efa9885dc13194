package tests

import (
	"reflect"
	"slices"
	"strconv"
	"testing"

	"loop.example/g00395/impl"
)

// checkSameAs checks SameProgram in both directions.
func checkSameAs(t *testing.T, what string, a impl.Program, b impl.Program, want bool) {
	t.Helper()
	if !impl.ProgramOk(a) || !impl.ProgramOk(b) {
		t.Fatalf("%s: a program is not valid", what)
	}
	if impl.SameProgram(a, b) != want || impl.SameProgram(b, a) != want {
		t.Errorf("%s: SameProgram is not %v", what, want)
	}
}

// sameTexts checks that two texts are the same program, and differentTexts
// that they are not.
func sameTexts(t *testing.T, a string, b string) {
	t.Helper()
	checkSameAs(t, a+" and "+b, parsed(t, a), parsed(t, b), true)
}

func differentTexts(t *testing.T, a string, b string) {
	t.Helper()
	checkSameAs(t, a+" and "+b, parsed(t, a), parsed(t, b), false)
}

func TestSameTexts(t *testing.T) {
	sameTexts(t, "1", " (* 2 *) (1)")
	sameTexts(t, "f x + 1", "((f\n(x)))+ 1")
	sameTexts(t, "- 1", "0 - 1")
	sameTexts(t, "type 'a t = A of 'a; ()", "type 'q t=A of('q);()")
	sameTexts(t, "type ('a, 'b) t = A of 'a; ()", "type ('b, 'a) t = A of 'b; ()")
	sameTexts(t, "match 1 with x :: y -> (2) end", "match (1)with(x::(y))->2 end")
	differentTexts(t, "1", "2")
	differentTexts(t, "1", "x")
	differentTexts(t, "x", "y")
	differentTexts(t, "x", `"x"`)
	differentTexts(t, `"x"`, `"y"`)
	differentTexts(t, `""`, "()")
	differentTexts(t, "A", "B")
	differentTexts(t, "A", "A ()")
	differentTexts(t, "(A B, C)", "(A, B C)")
	differentTexts(t, "(1, 2)", "1; 2")
	differentTexts(t, "(1, 2)", "1 2")
	differentTexts(t, "1 := 2", "1; 2")
	differentTexts(t, "1 + 2", "1 * 2")
	differentTexts(t, "1 + 2", "2 + 1")
	differentTexts(t, "1 < 2", "1 <= 2")
	differentTexts(t, "!x", "ref x")
	differentTexts(t, "raise x", "ref x")
	differentTexts(t, "fun x -> 1", "fun y -> 1")
	differentTexts(t, "fun x -> x", "fun y -> y")
	differentTexts(t, "let x = 1 in 2", "let y = 1 in 2")
	differentTexts(t, "let x = 1 in 2", "try 1 with x -> 2 end")
	differentTexts(t, "let rec f x = 1 in 2", "let rec g x = 1 in 2")
	differentTexts(t, "let rec f x = 1 in 2", "let rec f y = 1 in 2")
	differentTexts(t, "let rec f x = 1 in 2", "let f = fun x -> 1 in 2")
	differentTexts(t, "try 1 with x -> 2 end", "try 1 with y -> 2 end")
	differentTexts(t, "!(1; 2)", "!1; 2")
	differentTexts(t, "(1; 2); 3", "1; 2; 3")
}

func TestSamePatterns(t *testing.T) {
	pats := []string{
		"_", "x", "y", "0", "1", "-1", "()", "A", "B", "true", "[]", "A x", "A y", "B x", "A _", "A 0", "(x, y)", "(y, x)", "(x, _)", "(A B, C)", "(A, B C)", "x :: y", "(_, _)",
		"A (x, y)", "(1, 2)", "(1, 3)", "(A, A)",
	}
	for i, a := range pats {
		for j, b := range pats {
			p, q := "match 0 with "+a+" -> 1 end", "match 0 with "+b+" -> 1 end"
			checkSameAs(t, p+" and "+q, parsed(t, p), parsed(t, q), i == j)
			p, q = "match 0 with u -> 1 | "+a+" -> 2 end", "match 0 with u -> 1 | "+b+" -> 2 end"
			checkSameAs(t, p+" and "+q, parsed(t, p), parsed(t, q), i == j)
		}
	}
	differentTexts(t, "match 0 with x -> 1 | _ -> 2 end", "match 0 with _ -> 1 | x -> 2 end")
	differentTexts(t, "match 0 with x -> 1 end", "match 0 with x -> 1 | _ -> 2 end")
	differentTexts(t, "match 0 with x -> match 1 with y -> 2 end | z -> 3 end", "match 0 with x -> match 1 with z -> 2 end | y -> 3 end")
}

func TestSameTypes(t *testing.T) {
	decls := []string{
		"", "type t = A;", "type u = A;", "type t = B;", "type 'a t = A;", "type ('a, 'b) t = A;", "type t = A | B;", "type t = B | A;", "type t = A | A;", "type t = A of int;", "type t = A of bool;",
		"type t = A of int list;", "type t = A of int; type u = B;", "type u = B; type t = A of int;", "type t = A; type t = A;", "type 'a t = A of 'a;", "type ('a, 'b) t = A of 'a;", "type ('a, 'b) t = A of 'b;",
		"type t = A of int * bool;", "type t = A of bool * int;", "type t = A of int -> bool;", "type t = A of (int, bool) u;", "type t = A of t list * int;", "type t = A of t * int list;", "type t = A of int ref;",
		"type t = A | B of int;", "type t = A of int | B;",
	}
	for i, a := range decls {
		for j, b := range decls {
			checkSameAs(t, a+" and "+b, parsed(t, a+"()"), parsed(t, b+" ( )"), i == j)
		}
	}
	differentTexts(t, "type t = A; 1", "type t = A; 2")
}

// TestSameExceptForAt: At is the only field that may differ.
func TestSameExceptForAt(t *testing.T) {
	p := parsed(t, everyForm)
	q := moved(cloned(p), func(at int) int { return 1000 - at })
	checkSameAs(t, "other offsets", p, q, true)
	checkSameAs(t, "no offsets", p, moved(cloned(p), func(int) int { return 0 }), true)
	for i := range p.Nodes {
		q := cloned(p)
		q.Nodes[i].At++
		checkSameAs(t, "another offset of node "+strconv.Itoa(i), p, q, true)
		q.Nodes[i].At = -1
		checkNoProgram(t, "a negative offset", q, p)
	}
	for i, n := range p.Nodes {
		for _, s := range rightNames(n) {
			q := cloned(p)
			q.Nodes[i].S = s
			checkSameAs(t, "node "+strconv.Itoa(i)+" with "+s, p, q, s == n.S)
		}
	}
}

// TestSameWithEmptyLists: nil and an empty slice are equivalent.
func TestSameWithEmptyLists(t *testing.T) {
	p := parsed(t, everyForm)
	q := cloned(p)
	for i, n := range q.Nodes {
		if len(n.Kids) == 0 {
			q.Nodes[i].Kids = []int{}
		}
		if len(n.Pats) == 0 {
			q.Nodes[i].Pats = []impl.Pat{}
		}
		for _, pat := range n.Pats {
			for j, m := range pat.Nodes {
				if len(m.Kids) == 0 {
					pat.Nodes[j].Kids = []int{}
				}
			}
		}
	}
	for _, d := range q.Types {
		for j, c := range d.Cons {
			if !c.Has {
				d.Cons[j].Arg.Items = []impl.TyItem{}
			}
		}
	}
	checkSameAs(t, "empty lists", p, q, true)
	if impl.PrintProgram(p) != impl.PrintProgram(q) {
		t.Error("empty lists are printed differently")
	}
	one := impl.Program{Nodes: unitNodes()}
	checkSameAs(t, "an empty list of types", one, impl.Program{Types: []impl.Type{}, Nodes: unitNodes()}, true)
	if impl.TyOk(impl.Ty{Items: []impl.TyItem{}}) || impl.PatOk(impl.Pat{Nodes: []impl.PNode{}}) || impl.ProgramOk(impl.Program{Nodes: []impl.Node{}}) {
		t.Error("an empty list is valid")
	}
	if !impl.PatOk(impl.Pat{Nodes: []impl.PNode{{Kind: impl.PUnit, Kids: []int{}}}}) {
		t.Error("a node with an empty list is not valid")
	}
}

// roomy is a list with something behind its end.
func roomy[T any](list []T, behind T) []T {
	return append(append(make([]T, 0, len(list)+2), list...), behind, behind)[:len(list)]
}

// roomyProgram is a program whose slices all have something behind their ends.
func roomyProgram(p impl.Program) impl.Program {
	p = cloned(p)
	for i, n := range p.Nodes {
		p.Nodes[i].Kids = roomy(n.Kids, 77)
		for j, q := range n.Pats {
			for k, m := range q.Nodes {
				q.Nodes[k].Kids = roomy(m.Kids, 78)
			}
			n.Pats[j].Nodes = roomy(q.Nodes, impl.PNode{Kind: 79})
		}
		p.Nodes[i].Pats = roomy(n.Pats, impl.Pat{Nodes: []impl.PNode{{Kind: 80}}})
	}
	for i, d := range p.Types {
		for j, c := range d.Cons {
			d.Cons[j].Arg.Items = roomy(c.Arg.Items, tyCon("behind", 81))
		}
		p.Types[i].Cons = roomy(d.Cons, impl.Con{Name: "Behind"})
	}
	return impl.Program{Types: roomy(p.Types, impl.Type{Name: "behind"}), Nodes: roomy(p.Nodes, impl.Node{Kind: 82})}
}

// stretched is a program with what is behind the ends of its slices.
func stretched(p impl.Program) impl.Program {
	p = impl.Program{Types: slices.Clone(p.Types[:cap(p.Types)]), Nodes: slices.Clone(p.Nodes[:cap(p.Nodes)])}
	for i, d := range p.Types {
		p.Types[i].Cons = slices.Clone(d.Cons[:cap(d.Cons)])
		for j, c := range p.Types[i].Cons {
			p.Types[i].Cons[j].Arg.Items = slices.Clone(c.Arg.Items[:cap(c.Arg.Items)])
		}
	}
	for i, n := range p.Nodes {
		p.Nodes[i].Kids = slices.Clone(n.Kids[:cap(n.Kids)])
		p.Nodes[i].Pats = slices.Clone(n.Pats[:cap(n.Pats)])
		for j, q := range p.Nodes[i].Pats {
			p.Nodes[i].Pats[j].Nodes = slices.Clone(q.Nodes[:cap(q.Nodes)])
			for k, m := range p.Nodes[i].Pats[j].Nodes {
				p.Nodes[i].Pats[j].Nodes[k].Kids = slices.Clone(m.Kids[:cap(m.Kids)])
			}
		}
	}
	return p
}

// TestArgumentsStay: the functions change neither their arguments nor what is
// behind them, and return the same a second time.
func TestArgumentsStay(t *testing.T) {
	p := roomyProgram(parsed(t, everyForm))
	broken := roomyProgram(parsed(t, everyForm))
	broken.Nodes[len(broken.Nodes)-1].Kids = append(broken.Nodes[len(broken.Nodes)-1].Kids, 3)
	for _, p := range []impl.Program{p, broken} {
		before := stretched(p)
		for range 2 {
			if text := impl.PrintProgram(p); impl.ProgramOk(p) != (text != "") || impl.SameProgram(p, p) != (text != "") || text != impl.PrintProgram(p) {
				t.Errorf("different answers for %s", brief(text))
			}
			for _, n := range p.Nodes {
				for _, q := range n.Pats {
					if impl.PrintPat(q) == "" || !impl.PatOk(q) {
						t.Error("a pattern is not valid")
					}
				}
			}
			for _, d := range p.Types {
				for _, c := range d.Cons {
					if (impl.PrintTy(c.Arg) != "") != c.Has || impl.TyOk(c.Arg) != c.Has {
						t.Error("a type is not valid")
					}
				}
			}
		}
		if !reflect.DeepEqual(stretched(p), before) {
			t.Error("an argument has changed")
		}
	}
}
