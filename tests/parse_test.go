package tests

import (
	"reflect"
	"strconv"
	"strings"
	"testing"

	"loop.example/g00395/impl"
)

var exprKinds = []string{"?", "int", "str", "var", "con", "fun", "app", "let", "rec", "if", "prim", "pair", "unit", "match", "raise", "try", "ref", "get", "set", "seq"}

var patKinds = []string{"?", "wild", "var", "int", "con", "pair", "unit"}

// shown is a whole program as a text: every type as shownType, then every
// node as its kind, N, S in quotes, @ and At, its patterns in square brackets
// and its children in parentheses. What is zero is left out, except for At.
func shown(t *testing.T, p impl.Program) string {
	t.Helper()
	text := ""
	for _, d := range p.Types {
		text += shownType(d) + "; "
	}
	next := 0
	text += shownNode(t, p, &next)
	if next != len(p.Nodes) {
		t.Fatalf("%d of %d nodes are in the tree: %s", next, len(p.Nodes), text)
	}
	return text
}

// shownNode shows the node that must be the next one of the preorder.
func shownNode(t *testing.T, p impl.Program, next *int) string {
	t.Helper()
	if *next >= len(p.Nodes) {
		t.Fatalf("there are only %d nodes", len(p.Nodes))
	}
	n := p.Nodes[*next]
	*next++
	if n.Kind < 1 || n.Kind >= len(exprKinds) {
		t.Fatalf("node %d has kind %d", *next-1, n.Kind)
	}
	text := exprKinds[n.Kind] + shownFields(n.N, n.S) + "@" + strconv.Itoa(n.At)
	pats := []string{}
	for _, q := range n.Pats {
		pats = append(pats, shownPat(t, q))
	}
	if len(pats) > 0 {
		text += "[" + strings.Join(pats, " | ") + "]"
	}
	kids := []string{}
	for _, k := range n.Kids {
		if k != *next {
			t.Fatalf("the child of %s is %d, not %d", text, k, *next)
		}
		kids = append(kids, shownNode(t, p, next))
	}
	return text + inBrackets(kids)
}

func shownPat(t *testing.T, q impl.Pat) string {
	t.Helper()
	next := 0
	text := shownPNode(t, q, &next)
	if next != len(q.Nodes) {
		t.Fatalf("%d of %d nodes are in the pattern %s", next, len(q.Nodes), text)
	}
	return text
}

func shownPNode(t *testing.T, q impl.Pat, next *int) string {
	t.Helper()
	if *next >= len(q.Nodes) {
		t.Fatalf("there are only %d nodes in a pattern", len(q.Nodes))
	}
	n := q.Nodes[*next]
	*next++
	if n.Kind < 1 || n.Kind >= len(patKinds) {
		t.Fatalf("node %d of a pattern has kind %d", *next-1, n.Kind)
	}
	text := patKinds[n.Kind] + shownFields(n.N, n.S)
	kids := []string{}
	for _, k := range n.Kids {
		if k != *next {
			t.Fatalf("the child of the pattern %s is %d, not %d", text, k, *next)
		}
		kids = append(kids, shownPNode(t, q, next))
	}
	return text + inBrackets(kids)
}

func shownFields(n int, s string) string {
	text := ""
	if n != 0 {
		text += strconv.Itoa(n)
	}
	if s != "" {
		text += strconv.Quote(s)
	}
	return text
}

func inBrackets(kids []string) string {
	if len(kids) == 0 {
		return ""
	}
	return "(" + strings.Join(kids, ", ") + ")"
}

// shownType shows a type variable as a quote and its number, and a type
// constructor as its name, a slash and its arity.
func shownType(d impl.Type) string {
	text := "type " + d.Name + "/" + strconv.Itoa(d.Params) + " ="
	for _, c := range d.Cons {
		text += " " + c.Name
		if c.Has || len(c.Arg.Items) > 0 {
			text += "(" + strconv.FormatBool(c.Has)
			for _, i := range c.Arg.Items {
				text += " " + shownItem(i)
			}
			text += ")"
		}
	}
	return text
}

func shownItem(i impl.TyItem) string {
	if i.Name == "" && i.Arity == 0 {
		return "'" + strconv.Itoa(i.Var)
	}
	text := i.Name + "/" + strconv.Itoa(i.Arity)
	if i.Var != 0 {
		text += "!" + strconv.Itoa(i.Var)
	}
	return text
}

// brief shortens a text for a message.
func brief(text string) string {
	if len(text) < 300 {
		return text
	}
	return text[:150] + " .. " + text[len(text)-140:]
}

func parsed(t *testing.T, text string) impl.Program {
	t.Helper()
	p, code, at := impl.Parse(text)
	if code != 0 || at != 0 {
		t.Fatalf("Parse(%q): code %d at %d", brief(text), code, at)
	}
	return p
}

func checkParse(t *testing.T, text string, want string) {
	t.Helper()
	if got := shown(t, parsed(t, text)); got != want {
		t.Errorf("Parse(%q) is\n%s, not\n%s", brief(text), got, want)
	}
}

// checkParseError checks the code and the offset, and that there is no
// program.
func checkParseError(t *testing.T, text string, code int, at int) {
	t.Helper()
	p, c, a := impl.Parse(text)
	if c != code || a != at || len(p.Types) != 0 || len(p.Nodes) != 0 {
		t.Errorf("Parse(%q) = %d nodes, %d types, code %d at %d, not code %d at %d", brief(text), len(p.Nodes), len(p.Types), c, a, code, at)
	}
}

// withoutPlaces is a shown program without its offsets.
func withoutPlaces(text string) string {
	parts := strings.Split(text, "@")
	for i := range parts[1:] {
		parts[i+1] = strings.TrimLeft(parts[i+1], "0123456789")
	}
	return strings.Join(parts, "")
}

// checkSame checks that two texts are the same program except for offsets.
func checkSame(t *testing.T, a string, b string) {
	t.Helper()
	x, y := withoutPlaces(shown(t, parsed(t, a))), withoutPlaces(shown(t, parsed(t, b)))
	if x != y {
		t.Errorf("%q is\n%s, but %q is\n%s", a, x, b, y)
	}
}

// checkDifferent checks that two texts are not the same program.
func checkDifferent(t *testing.T, a string, b string) {
	t.Helper()
	if x := withoutPlaces(shown(t, parsed(t, a))); x == withoutPlaces(shown(t, parsed(t, b))) {
		t.Errorf("%q and %q are both %s", a, b, x)
	}
}

func TestParseConstants(t *testing.T) {
	got := []int{
		impl.EInt, impl.EStr, impl.EVar, impl.ECon, impl.EFun, impl.EApp, impl.ELet, impl.ERec, impl.EIf, impl.EPrim, impl.EPair,
		impl.EUnit, impl.EMatch, impl.ERaise, impl.ETry, impl.ERef, impl.EGet, impl.ESet, impl.ESeq,
		impl.PWild, impl.PVar, impl.PInt, impl.PCon, impl.PPair, impl.PUnit,
		impl.MaxNodes, impl.MaxDepth, impl.MaxTypes, impl.MaxCons,
	}
	want := []int{1, 2, 3, 4, 5, 6, 7, 8, 9, 10, 11, 12, 13, 14, 15, 16, 17, 18, 19, 1, 2, 3, 4, 5, 6, 600, 100, 8, 8}
	if !reflect.DeepEqual(got, want) {
		t.Errorf("the constants are %v", got)
	}
}

func TestAtoms(t *testing.T) {
	checkParse(t, "0", `int@0`)
	checkParse(t, " 7 ", `int7@1`)
	checkParse(t, "4611686018427387903", `int4611686018427387903@0`)
	checkParse(t, `""`, `str@0`)
	checkParse(t, ` "a\n"`, `str"a\n"@1`)
	checkParse(t, `"("`, `str"("@0`)
	checkParse(t, `"["`, `str"["@0`)
	checkParse(t, "x", `var"x"@0`)
	checkParse(t, "print", `var"print"@0`)
	checkParse(t, "A", `con"A"@0`)
	checkParse(t, "\tSome_1", `con"Some_1"@1`)
	checkParse(t, "true", `con"true"@0`)
	checkParse(t, " false", `con"false"@1`)
	checkParse(t, "[]", `con"[]"@0`)
	checkParse(t, " [ (**) ] ", `con"[]"@1`)
	checkParse(t, "()", `unit@0`)
	checkParse(t, " ( (**) ) ", `unit@1`)
	checkParse(t, "(x)", `var"x"@1`)
	checkParse(t, "((x))", `var"x"@2`)
	checkParse(t, "(x, 1)", `pair@0(var"x"@1, int1@4)`)
	checkParse(t, "((x, 1), ())", `pair@0(pair@1(var"x"@2, int1@5), unit@9)`)
	checkParse(t, "((x, (1, y)))", `pair@1(var"x"@2, pair@5(int1@6, var"y"@9))`)
}

func TestApplications(t *testing.T) {
	checkParse(t, "f x", `app@2(var"f"@0, var"x"@2)`)
	checkParse(t, "f x y", `app@4(app@2(var"f"@0, var"x"@2), var"y"@4)`)
	checkParse(t, "f (x)", `app@2(var"f"@0, var"x"@3)`)
	checkParse(t, "(f x) y", `app@6(app@3(var"f"@1, var"x"@3), var"y"@6)`)
	checkParse(t, "f (g x)", `app@2(var"f"@0, app@5(var"g"@3, var"x"@5))`)
	checkParse(t, "f()", `app@1(var"f"@0, unit@1)`)
	checkParse(t, "f (1, 2)", `app@2(var"f"@0, pair@2(int1@3, int2@6))`)
	checkParse(t, "f((1,2))", `app@1(var"f"@0, pair@2(int1@3, int2@5))`)
	checkParse(t, `f 1"a"[]true`, `app@8(app@6(app@3(app@2(var"f"@0, int1@2), str"a"@3), con"[]"@6), con"true"@8)`)
	checkParse(t, "1 2", `app@2(int1@0, int2@2)`)
	checkParse(t, "() ()", `app@3(unit@0, unit@3)`)
	checkParse(t, `"a" "b"`, `app@4(str"a"@0, str"b"@4)`)
	checkParse(t, "(fun x -> x) 1", `app@13(fun"x"@1(var"x"@10), int1@13)`)
}

func TestConstructorsWithArguments(t *testing.T) {
	checkParse(t, "A b", `con"A"@0(var"b"@2)`)
	checkParse(t, "A b c", `app@4(con"A"@0(var"b"@2), var"c"@4)`)
	checkParse(t, "A B", `con"A"@0(con"B"@2)`)
	checkParse(t, "A B c", `app@4(con"A"@0(con"B"@2), var"c"@4)`)
	checkParse(t, "A (B c)", `con"A"@0(con"B"@3(var"c"@5))`)
	checkParse(t, "A ()", `con"A"@0(unit@2)`)
	checkParse(t, "A (1, 2)", `con"A"@0(pair@2(int1@3, int2@6))`)
	checkParse(t, "A []", `con"A"@0(con"[]"@2)`)
	checkParse(t, "A true false", `app@7(con"A"@0(con"true"@2), con"false"@7)`)
	checkParse(t, `A "s"`, `con"A"@0(str"s"@2)`)
	checkParse(t, "A 7", `con"A"@0(int7@2)`)
	checkParse(t, "f A", `app@2(var"f"@0, con"A"@2)`)
	checkParse(t, "f A b", `app@4(app@2(var"f"@0, con"A"@2), var"b"@4)`)
	checkParse(t, "f A B", `app@4(app@2(var"f"@0, con"A"@2), con"B"@4)`)
	checkParse(t, "f (A b)", `app@2(var"f"@0, con"A"@3(var"b"@5))`)
	checkParse(t, "(A) b", `app@4(con"A"@1, var"b"@4)`)
	checkParse(t, "((A b)) c", `app@8(con"A"@2(var"b"@4), var"c"@8)`)
	checkParse(t, "(A) B c", `app@6(app@4(con"A"@1, con"B"@4), var"c"@6)`)
	checkParse(t, "true A", `app@5(con"true"@0, con"A"@5)`)
	checkParse(t, "false x y", `app@8(app@6(con"false"@0, var"x"@6), var"y"@8)`)
	checkParse(t, "[] x", `app@3(con"[]"@0, var"x"@3)`)
	checkParse(t, "! A b", `get@0(con"A"@2(var"b"@4))`)
	checkParse(t, "- A b", `prim"-"@0(int@0, con"A"@2(var"b"@4))`)
	checkParse(t, "A + B", `prim"+"@2(con"A"@0, con"B"@4)`)
	checkParse(t, "A - B", `prim"-"@2(con"A"@0, con"B"@4)`)
	checkParse(t, "1 + A b", `prim"+"@2(int1@0, con"A"@4(var"b"@6))`)
	checkParse(t, "A b :: C d", `con"::"@4(pair@4(con"A"@0(var"b"@2), con"C"@7(var"d"@9)))`)
}

func TestForms(t *testing.T) {
	checkParse(t, "fun x -> x", `fun"x"@0(var"x"@9)`)
	checkParse(t, "fun x->fun y->x", `fun"x"@0(fun"y"@7(var"x"@14))`)
	checkParse(t, "let x = 1 in x", `let"x"@0(int1@8, var"x"@13)`)
	checkParse(t, "let rec f x = f in f", `rec"f"@0(fun"x"@10(var"f"@14), var"f"@19)`)
	checkParse(t, "let rec f f = 1 in 2", `rec"f"@0(fun"f"@10(int1@14), int2@19)`)
	checkParse(t, " if a then b else c", `if@1(var"a"@4, var"b"@11, var"c"@18)`)
	checkParse(t, "match x with 1 -> 2 end", `match@0[int1](var"x"@6, int2@18)`)
	checkParse(t, "match x with 1 -> 2 | y -> 3|_->4 end", `match@0[int1 | var"y" | wild](var"x"@6, int2@18, int3@27, int4@32)`)
	checkParse(t, "try 1 with e -> 2 end", `try"e"@0(int1@4, int2@16)`)
	checkParse(t, "raise 1", `raise@0(int1@6)`)
	checkParse(t, "ref x", `ref@0(var"x"@4)`)
	checkParse(t, "!x", `get@0(var"x"@1)`)
	checkParse(t, "x := 1", `set@2(var"x"@0, int1@5)`)
	checkParse(t, "x; y", `seq@1(var"x"@0, var"y"@3)`)
	checkParse(t, "(let x = 1 in x, try 2 with e -> e end)", `pair@0(let"x"@1(int1@9, var"x"@14), try"e"@17(int2@21, var"e"@33))`)
}

// TestFormsInForms: a form extends as far as possible.
func TestFormsInForms(t *testing.T) {
	checkParse(t, "fun x -> x; y", `fun"x"@0(seq@10(var"x"@9, var"y"@12))`)
	checkSame(t, "fun x -> x; y", "fun x -> (x; y)")
	checkSame(t, "let x = a; b in c; d", "let x = (a; b) in (c; d)")
	checkSame(t, "let rec f x = a; b in c; d", "let rec f x = (a; b) in (c; d)")
	checkSame(t, "if a; b then c; d else e; f", "if (a; b) then (c; d) else (e; f)")
	checkSame(t, "match a; b with x -> c; d | y -> e; f end", "match (a; b) with x -> (c; d) | y -> (e; f) end")
	checkSame(t, "try a; b with x -> c; d end", "try (a; b) with x -> (c; d) end")
	checkSame(t, "if a then if b then c else d else e", "if a then (if b then c else d) else e")
	checkSame(t, "match a with x -> match b with y -> 1 | z -> 2 end | u -> 3 end", "match a with x -> (match b with y -> 1 | z -> 2 end) | u -> 3 end")
	checkSame(t, "let x = let y = 1 in y in x", "let x = (let y = 1 in y) in x")
	checkSame(t, "a; let x = 1 in b; c", "a; (let x = 1 in (b; c))")
	checkSame(t, "a; fun x -> b; c", "a; (fun x -> (b; c))")
	checkSame(t, "(a; b, c; d)", "((a; b), (c; d))")
	checkSame(t, "(fun x -> x, fun y -> y)", "((fun x -> x), (fun y -> y))")
}

func TestPrecedence(t *testing.T) {
	checkParse(t, "1 + 2 * 3", `prim"+"@2(int1@0, prim"*"@6(int2@4, int3@8))`)
	checkParse(t, "a; b := c", `seq@1(var"a"@0, set@5(var"b"@3, var"c"@8))`)
	checkSame(t, "a; b := c = d :: e + f * - g h", "a; (b := (c = (d :: (e + (f * (- (g h)))))))")
	checkSame(t, "- a b * c + d :: e = f := g; h", "(((((((- (a b)) * c) + d) :: e) = f) := g); h)")
	checkSame(t, "a * b + c * d", "(a * b) + (c * d)")
	checkSame(t, "a + b :: c + d", "(a + b) :: (c + d)")
	checkSame(t, "a :: b = c :: d", "(a :: b) = (c :: d)")
	checkSame(t, "a = b := c = d", "(a = b) := (c = d)")
	checkSame(t, "a := b; c := d", "(a := b); (c := d)")
	checkSame(t, "- a * - b", "(- a) * (- b)")
	checkSame(t, "! a * ! b", "(! a) * (! b)")
	checkSame(t, "- f x", "- (f x)")
	checkSame(t, "! f x", "! (f x)")
	checkSame(t, "ref f x + 1", "(ref (f x)) + 1")
	checkSame(t, "raise a + b", "(raise a) + b")
	checkSame(t, "raise - ! ref a b", "raise (- (! (ref (a b))))")
	checkSame(t, "! a := ! b", "(! a) := (! b)")
	checkDifferent(t, "a * b + c", "a * (b + c)")
	checkDifferent(t, "a + b :: c", "a + (b :: c)")
	checkDifferent(t, "a :: b = c", "a :: (b = c)")
	checkDifferent(t, "! f x", "(! f) x")
}

func TestAssociativity(t *testing.T) {
	checkParse(t, "1 - 2 - 3", `prim"-"@6(prim"-"@2(int1@0, int2@4), int3@8)`)
	checkParse(t, "1::2::[]", `con"::"@1(pair@1(int1@0, con"::"@4(pair@4(int2@3, con"[]"@6))))`)
	checkParse(t, "a:=b:=c", `set@1(var"a"@0, set@4(var"b"@3, var"c"@6))`)
	checkParse(t, "a;b;c", `seq@1(var"a"@0, seq@3(var"b"@2, var"c"@4))`)
	for _, class := range []string{"+-^", "*/%"} {
		for _, f := range class {
			for _, g := range class {
				one, two := string(f), string(g)
				checkSame(t, "a"+one+"b"+two+"c", "(a"+one+"b)"+two+"c")
				checkDifferent(t, "a"+one+"b"+two+"c", "a"+one+"(b"+two+"c)")
			}
		}
	}
	for _, op := range []string{"::", ":=", ";"} {
		checkSame(t, "a"+op+"b"+op+"c", "a"+op+"(b"+op+"c)")
		checkDifferent(t, "a"+op+"b"+op+"c", "(a"+op+"b)"+op+"c")
	}
	ops := []string{"=", "<>", "<", "<="}
	for _, f := range ops {
		for _, g := range ops {
			checkParseError(t, "a "+f+" b "+g+" c", 7, len("a "+f+" b "))
			checkSame(t, "(a "+f+" b) "+g+" c", "((a "+f+" b)) "+g+" c")
			checkDifferent(t, "(a "+f+" b) "+g+" c", "a "+f+" (b "+g+" c)")
		}
	}
}

func TestOperators(t *testing.T) {
	for _, op := range []string{"=", "<>", "<", "<=", "+", "-", "^", "*", "/", "%"} {
		checkParse(t, "a "+op+" b", `prim"`+op+`"@2(var"a"@0, var"b"@`+strconv.Itoa(3+len(op))+`)`)
		checkParse(t, "(1,2) "+op+"A x", `prim"`+op+`"@6(pair@0(int1@1, int2@3), con"A"@`+strconv.Itoa(6+len(op))+`(var"x"@`+strconv.Itoa(8+len(op))+`))`)
	}
}

func TestMinus(t *testing.T) {
	checkParse(t, "- 5", `prim"-"@0(int@0, int5@2)`)
	checkParse(t, " -x", `prim"-"@1(int@1, var"x"@2)`)
	checkParse(t, "--x", `prim"-"@0(int@0, prim"-"@1(int@1, var"x"@2))`)
	checkParse(t, "1--2", `prim"-"@1(int1@0, prim"-"@2(int@2, int2@3))`)
	checkParse(t, "f -1", `prim"-"@2(var"f"@0, int1@3)`)
	checkParse(t, "f (-1)", `app@2(var"f"@0, prim"-"@3(int@3, int1@4))`)
	checkParse(t, "-raise 1", `prim"-"@0(int@0, raise@1(int1@7))`)
	checkParse(t, "-4611686018427387903", `prim"-"@0(int@0, int4611686018427387903@1)`)
	checkParse(t, "0 - 1", `prim"-"@2(int@0, int1@4)`)
}
