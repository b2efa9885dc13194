package tests

import (
	"slices"
	"strconv"
	"strings"
	"testing"

	"loop.example/g00395/impl"
)

// checkDecls checks CheckTypes, Infer and PatsTy for a program whose
// expression has a type.
func checkDecls(t *testing.T, p impl.Program, code int, index int) {
	t.Helper()
	if got, at := impl.CheckTypes(p); got != code || at != index {
		t.Errorf("CheckTypes is %d and %d, not %d and %d, for %s", got, at, code, index, brief(impl.PrintProgram(p)))
	}
	if got, at := secondCheck(p); got != code || at != index {
		t.Errorf("the second check is %d and %d, not %d and %d, for %s", got, at, code, index, brief(impl.PrintProgram(p)))
	}
	if got, gotCode, at := inferred(t, p); gotCode != code || at != index || (len(got.Items) > 0) != (code == 0) {
		t.Errorf("Infer is %s, %d and %d, not %d and %d, for %s", tyText(got), gotCode, at, code, index, brief(impl.PrintProgram(p)))
	}
	wild := impl.Pat{Nodes: []impl.PNode{{Kind: impl.PWild}}}
	if got, gotCode := impl.PatsTy(p, []impl.Pat{wild}); gotCode != min(code, 1) || (len(got.Items) > 0) != (code == 0) {
		t.Errorf("PatsTy is %s and %d for %s", tyText(got), gotCode, brief(impl.PrintProgram(p)))
	}
}

func checkDeclTexts(t *testing.T, types string, code int, index int) {
	t.Helper()
	checkDecls(t, parsed(t, types+" ()"), code, index)
}

func TestDeclarations(t *testing.T) {
	checkDeclTexts(t, "", 0, 0)
	checkDeclTexts(t, "type t = A;", 0, 0)
	checkDeclTexts(t, "type t = A | B of int | C of bool * string -> unit;", 0, 0)
	checkDeclTexts(t, "type 'a t = A of 'a | B of 'a t | C of ('a list) ref;", 0, 0)
	checkDeclTexts(t, "type ('a, 'b) t = A of ('b, 'a) t | B of (int, int) t;", 0, 0)
	checkDeclTexts(t, "type t = A of u; type u = B of v * t; type v = C;", 0, 0)
	checkDeclTexts(t, "type print = Print of a; type a = A; type x = X;", 0, 0)
	checkDeclTexts(t, "type ints = Int; type lists = List; type bools = True;", 0, 0)
}

func TestTakenTypeNames(t *testing.T) {
	for _, name := range []string{"int", "bool", "string", "unit", "list"} {
		for _, head := range []string{"", "'a ", "('a, 'b) "} {
			checkDeclTexts(t, "type "+head+name+" = A;", 11, 0)
			checkDeclTexts(t, "type t = B; type "+head+name+" = A;", 11, 1)
			checkDeclTexts(t, "type t = B; type u = C; type "+head+name+" = A;", 11, 2)
		}
	}
	checkDeclTexts(t, "type t = A; type t = B;", 11, 1)
	checkDeclTexts(t, "type t = A; type 'a t = B;", 11, 1)
	checkDeclTexts(t, "type t = A; type u = B; type t = C;", 11, 2)
	checkDeclTexts(t, "type t = A; type u = B; type u = C; type t = D;", 11, 2)
}

func TestConstructorsTwice(t *testing.T) {
	checkDeclTexts(t, "type t = A | A;", 12, 0)
	checkDeclTexts(t, "type t = A | B | C | A;", 12, 0)
	checkDeclTexts(t, "type t = A | A of int;", 12, 0)
	checkDeclTexts(t, "type t = A; type u = A;", 12, 1)
	checkDeclTexts(t, "type t = A | B; type u = C | B;", 12, 1)
	checkDeclTexts(t, "type t = A; type u = B; type v = C | A of int;", 12, 2)
	checkDeclTexts(t, "type t = A; type u = B; type v = C | B;", 12, 2)
	checkDeclTexts(t, "type t = A; type u = B | B; type v = A;", 12, 1)
	checkDeclTexts(t, "type t = A | Aa | AA | A_ | B;", 0, 0)
}

func TestUnknownTypes(t *testing.T) {
	for _, arg := range []string{
		"u", "int list list u", "int * u", "u -> int", "(int -> u) ref", "int int", "bool bool", "(int, int) string", "unit unit", "list", "(int, int) list",
		"list list", "int t", "(int, int) t", "t t", "ref1", "(u, int) v", "int * (list * int)", "int v", "v", "a", "print",
	} {
		checkDeclTexts(t, "type t = A of "+arg+"; type ('a, 'b) v = B;", 13, 0)
		checkDeclTexts(t, "type ('a, 'b) v = B; type t = A of "+arg+";", 13, 1)
		checkDeclTexts(t, "type ('a, 'b) v = B; type t = C | A of int * "+arg+" | D;", 13, 1)
	}
	for _, arg := range []string{"int", "bool", "string", "unit", "int list", "int ref", "int -> bool", "int * bool", "t", "(int, t) v", "((t, t) v, (int * int) list) v ref"} {
		checkDeclTexts(t, "type t = A of "+arg+"; type ('a, 'b) v = B;", 0, 0)
		checkDeclTexts(t, "type ('a, 'b) v = B; type t = A of "+arg+";", 0, 0)
	}
	checkDeclTexts(t, "type 'a t = A of t;", 13, 0)
	checkDeclTexts(t, "type 'a t = A of ('a, 'a) t;", 13, 0)
	checkDeclTexts(t, "type 'a t = A of 'a t; type u = B of t;", 13, 1)
}

// TestFirstDeclaration: the first type with an error counts, and for it the
// first code.
func TestFirstDeclaration(t *testing.T) {
	checkDeclTexts(t, "type int = A | A;", 11, 0)
	checkDeclTexts(t, "type int = A of u;", 11, 0)
	checkDeclTexts(t, "type int = A of u | A;", 11, 0)
	checkDeclTexts(t, "type t = A of u | A;", 12, 0)
	checkDeclTexts(t, "type t = A | A of u;", 12, 0)
	checkDeclTexts(t, "type t = A; type t = A of u;", 11, 1)
	checkDeclTexts(t, "type t = A; type u = A of w;", 12, 1)
	checkDeclTexts(t, "type t = A of u; type int = B;", 13, 0)
	checkDeclTexts(t, "type t = A of u; type v = A;", 13, 0)
	checkDeclTexts(t, "type t = A | A; type int = B;", 12, 0)
	checkDeclTexts(t, "type t = A; type u = B of w; type t = A;", 13, 1)
	checkDeclTexts(t, "type t = A of int u; type u = B; type 'a u = C;", 11, 2)
	checkDeclTexts(t, "type t = A of u; type 'a u = B; type u = C;", 11, 2)
	checkDeclTexts(t, "type t = A of int int; type 'a int = B;", 11, 1)
	checkDeclTexts(t, "type t = A of list; type list = B;", 11, 1)
	checkDeclTexts(t, "type t = A of (int, int) list; type list = B;", 13, 0)
}

// TestDeclarationsComeFirst: the expression does not matter if a type has an
// error.
func TestDeclarationsComeFirst(t *testing.T) {
	for _, expr := range []string{"x", "B", "A 1", "1 2", "fun x -> x x", "match 1 with C -> 2 end"} {
		p := parsed(t, "type t = A; type u = A; "+expr)
		if got, code, at := inferred(t, p); code != 12 || at != 1 || len(got.Items) > 0 {
			t.Errorf("Infer is %s, %d and %d for %s", tyText(got), code, at, expr)
		}
	}
	if _, code, at := inferred(t, parsed(t, "type t = A; (x, 1)")); code != 21 || at != 13 {
		t.Errorf("Infer is %d and %d", code, at)
	}
	if code, at := impl.CheckTypes(parsed(t, "type t = A; (x, 1)")); code != 0 || at != 0 {
		t.Errorf("CheckTypes is %d and %d for an expression that has no type", code, at)
	}
}

// TestBadPrograms: a program that is not valid has code 1, whatever else is
// wrong with it.
func TestBadPrograms(t *testing.T) {
	checkDecls(t, impl.Program{}, 1, 0)
	checkDecls(t, impl.Program{Nodes: []impl.Node{}}, 1, 0)
	for _, types := range []string{"", "type t = A;", "type t = A; type int = B;", "type t = A; type u = A;", "type t = A; type u = B of w;"} {
		good := parsed(t, types+" let f = fun x -> match x with (a, b) -> a + b | c -> 1 end in (f (1, 2); ())")
		if code, _ := impl.CheckTypes(good); code == 1 {
			t.Errorf("CheckTypes is 1 for %s", types)
		}
		for i := range good.Nodes {
			bad := cloned(good)
			bad.Nodes[i].Kids = append(bad.Nodes[i].Kids, 1)
			checkDecls(t, bad, 1, 0)
			bad = cloned(good)
			bad.Nodes[i].Kind = 20
			checkDecls(t, bad, 1, 0)
			bad = cloned(good)
			bad.Nodes[i].At = -1
			checkDecls(t, bad, 1, 0)
			checkDecls(t, impl.Program{Types: good.Types, Nodes: good.Nodes[:i]}, 1, 0)
		}
		many := cloned(good)
		many.Types = append(many.Types, slices.Repeat([]impl.Type{{Name: "v", Cons: []impl.Con{{Name: "C"}}}}, impl.MaxTypes+1)...)
		checkDecls(t, many, 1, 0)
	}
	for _, bad := range badTys() {
		p := withTy(2, bad)
		checkDecls(t, p, 1, 0)
		p.Types = append(p.Types, p.Types[0], impl.Type{Name: "int", Cons: []impl.Con{{Name: "A"}}})
		checkDecls(t, p, 1, 0)
	}
	p := withTy(1, ty("0"))
	checkDecls(t, p, 0, 0)
	p.Types[0].Cons[0].Has = false
	checkDecls(t, p, 1, 0)
}

// fullType is a type with MaxCons constructors, whose arguments have MaxItems
// items and end with a type with so many parameters.
func fullType(name string, params int, last string, lastParams int) impl.Type {
	leaf := last + "/" + strconv.Itoa(lastParams) + strings.Repeat(" int", lastParams)
	d := impl.Type{Name: name, Params: params}
	for i := range impl.MaxCons {
		arg := ty(layers(impl.MaxItems-1-lastParams, "list", leaf))
		d.Cons = append(d.Cons, impl.Con{Name: strings.ToUpper(name) + strconv.Itoa(i), Has: true, Arg: arg})
	}
	return d
}

func TestMostDeclarations(t *testing.T) {
	const last = impl.MaxTypes - 1
	p := impl.Program{Nodes: unitNodes()}
	for i := range impl.MaxTypes {
		next := (i + 1) % impl.MaxTypes
		p.Types = append(p.Types, fullType("t"+strconv.Itoa(i), i%3, "t"+strconv.Itoa(next), next%3))
	}
	checkDecls(t, p, 0, 0)
	q := cloned(p)
	q.Types[last].Cons[impl.MaxCons-1].Arg.Items[impl.MaxItems-1].Name = "u"
	checkDecls(t, q, 13, last)
	q.Types[last].Cons[impl.MaxCons-1].Name = "T00"
	checkDecls(t, q, 12, last)
	q.Types[last].Name = "t0"
	checkDecls(t, q, 13, last-1)
	p.Types[0].Params = 1
	checkDecls(t, p, 13, last)
}

// randomDecls are types whose names, constructors and arguments are right in
// most cases.
func (g *lot) randomDecls() []impl.Type {
	names := []string{"t", "u", "v", "w", "abc"}
	types := []impl.Type{}
	for i := range 1 + g.next(5) {
		d := impl.Type{Name: names[i], Params: g.next(3)}
		for j := range 1 + g.next(3) {
			c := impl.Con{Name: "C" + strconv.Itoa(i) + strconv.Itoa(j), Has: g.next(2) == 0}
			if c.Has {
				c.Arg = g.knownTy(d.Params, names)
			}
			d.Cons = append(d.Cons, c)
		}
		types = append(types, d)
	}
	d := &types[g.next(len(types))]
	switch g.next(12) {
	case 0:
		d.Name = g.of("int", "list", "t", "u", "ints")
	case 1:
		d.Cons[0].Name = "C" + strconv.Itoa(g.next(5)) + strconv.Itoa(g.next(3))
	case 2:
		g.changeType(d)
	}
	return types
}

// knownTy is a type of predefined types, with the right arities, and of some
// others.
func (g *lot) knownTy(params int, names []string) impl.Ty {
	a := g.randomTy(5, params)
	for i, item := range a.Items {
		switch {
		case item.Name == "":
		case g.next(6) == 0 && item.Name != "->" && item.Name != "*" && item.Name != "ref":
			a.Items[i].Name = g.of(names...)
		case item.Arity == 0:
			a.Items[i].Name = g.of("int", "bool", "string", "unit")
		case item.Arity == 1:
			a.Items[i].Name = g.of("list", "ref")
		default:
			a.Items[i].Name = g.of("->", "*")
		}
	}
	return a
}

// TestRandomDeclarations compares CheckTypes with a second check.
func TestRandomDeclarations(t *testing.T) {
	counts := map[int]int{}
	for seed := range uint32(10000) {
		g := &lot{seed: seed}
		p := impl.Program{Types: g.randomDecls(), Nodes: unitNodes()}
		code, index := secondCheck(p)
		counts[code]++
		checkDecls(t, p, code, index)
		if t.Failed() {
			return
		}
	}
	for _, code := range []int{0, 1, 11, 12, 13} {
		if counts[code] < 100 {
			t.Errorf("the codes occur so many times: %v", counts)
		}
	}
}
