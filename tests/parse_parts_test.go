package tests

import (
	"slices"
	"strconv"
	"strings"
	"testing"

	"loop.example/g00395/impl"
)

// checkPat checks the pattern of a match.
func checkPat(t *testing.T, pat string, want string) {
	t.Helper()
	p := parsed(t, "match 0 with "+pat+" -> 1 end")
	if len(p.Nodes) != 3 || len(p.Nodes[0].Pats) != 1 {
		t.Fatalf("the pattern %q makes %s", pat, shown(t, p))
	}
	if got := shownPat(t, p.Nodes[0].Pats[0]); got != want {
		t.Errorf("the pattern %q is %s, not %s", pat, got, want)
	}
}

// checkPatError checks the code and the offset within the pattern.
func checkPatError(t *testing.T, pat string, code int, at int) {
	t.Helper()
	const before = "match 0 with "
	checkParseError(t, before+pat+" -> 1 end", code, len(before)+at)
}

func TestPatterns(t *testing.T) {
	checkPat(t, "_", `wild`)
	checkPat(t, "x", `var"x"`)
	checkPat(t, "0", `int`)
	checkPat(t, "12", `int12`)
	checkPat(t, "- 12", `int-12`)
	checkPat(t, "-0", `int`)
	checkPat(t, "- (* minus *) 3", `int-3`)
	checkPat(t, "4611686018427387903", `int4611686018427387903`)
	checkPat(t, "-4611686018427387903", `int-4611686018427387903`)
	checkPat(t, "true", `con"true"`)
	checkPat(t, "false", `con"false"`)
	checkPat(t, "()", `unit`)
	checkPat(t, "[]", `con"[]"`)
	checkPat(t, "(x)", `var"x"`)
	checkPat(t, "((_))", `wild`)
	checkPat(t, "(x, y)", `pair(var"x", var"y")`)
	checkPat(t, "((x, y), (1, ()))", `pair(pair(var"x", var"y"), pair(int1, unit))`)
	checkPat(t, "(_, _)", `pair(wild, wild)`)
}

func TestConstructorPatterns(t *testing.T) {
	checkPat(t, "A", `con"A"`)
	checkPat(t, "(A)", `con"A"`)
	for pat, want := range map[string]string{
		"_": `wild`, "x": `var"x"`, "7": `int7`, "- 7": `int-7`, "true": `con"true"`, "false": `con"false"`, "()": `unit`, "[]": `con"[]"`,
		"(x)": `var"x"`, "(x, 1)": `pair(var"x", int1)`, "B": `con"B"`, "B x": `con"B"(var"x")`, "B -1": `con"B"(int-1)`,
		"(x :: y)": `con"::"(pair(var"x", var"y"))`,
	} {
		checkPat(t, "A "+pat, `con"A"(`+want+`)`)
	}
	checkPat(t, "A B C x", `con"A"(con"B"(con"C"(var"x")))`)
	checkPat(t, "(A x, B)", `pair(con"A"(var"x"), con"B")`)
	checkPat(t, "(A, x)", `pair(con"A", var"x")`)
	checkPatError(t, "A x y", 7, 4)
	checkPatError(t, "true x", 7, 5)
	checkPatError(t, "[] x", 7, 3)
	checkPatError(t, "(A) x", 7, 4)
	checkPatError(t, "x y", 7, 2)
	checkPatError(t, "1 2", 7, 2)
}

func TestConsPatterns(t *testing.T) {
	checkPat(t, "x :: y", `con"::"(pair(var"x", var"y"))`)
	checkPat(t, "x :: y :: []", `con"::"(pair(var"x", con"::"(pair(var"y", con"[]"))))`)
	checkPat(t, "(x :: y) :: z", `con"::"(pair(con"::"(pair(var"x", var"y")), var"z"))`)
	checkPat(t, "A x :: B", `con"::"(pair(con"A"(var"x"), con"B"))`)
	checkPat(t, "A :: B", `con"::"(pair(con"A", con"B"))`)
	checkPat(t, "-1 :: -2 :: _", `con"::"(pair(int-1, con"::"(pair(int-2, wild))))`)
	checkPat(t, "(x :: y, z :: u)", `pair(con"::"(pair(var"x", var"y")), con"::"(pair(var"z", var"u")))`)
	checkPat(t, "A (x :: y)", `con"A"(con"::"(pair(var"x", var"y")))`)
}

func TestPatternsOfArms(t *testing.T) {
	checkParse(t, "match 1 with x -> x | x -> x end", `match@0[var"x" | var"x"](int1@6, var"x"@18, var"x"@27)`)
	checkParse(t, "match 1 with (x, y) -> match 2 with x :: y -> 3 end | A -> 4 end",
		`match@0[pair(var"x", var"y") | con"A"](int1@6, match@23[con"::"(pair(var"x", var"y"))](int2@29, int3@46), int4@59)`)
	checkParse(t, "match match 1 with x -> x end with x -> x end",
		`match@0[var"x"](match@6[var"x"](int1@12, var"x"@24), var"x"@40)`)
}

func TestNamesTwiceInAPattern(t *testing.T) {
	checkPatError(t, "(x, x)", 8, 4)
	checkPatError(t, "x :: x", 8, 5)
	checkPatError(t, "x :: y :: x", 8, 10)
	checkPatError(t, "((x, y), (z, x))", 8, 13)
	checkPatError(t, "((x, y), A x)", 8, 11)
	checkPatError(t, "A x :: B C x", 8, 11)
	checkPatError(t, "(x, (x, x))", 8, 5)
	checkPatError(t, "(x, y, x)", 7, 5)
	checkPatError(t, "(abcdefghijkl, abcdefghijkl)", 8, 15)
	checkPat(t, "(x, (y, X z))", `pair(var"x", pair(var"y", con"X"(var"z")))`)
	checkPat(t, "(x, (xx, (x_, x1)))", `pair(var"x", pair(var"xx", pair(var"x_", var"x1")))`)
	checkPat(t, "(_, (_, x))", `pair(wild, pair(wild, var"x"))`)
	checkParseError(t, "match 1 with x -> 1 | (y, y) -> 2 end", 8, 26)
	checkParseError(t, "match 1 with (x, y) -> 1 | (x, (y, x)) -> 2 end", 8, 35)
	checkParseError(t, "match 1 with x -> match 2 with (y, y) -> x end end", 8, 35)
}

func checkTypes(t *testing.T, text string, want string) {
	t.Helper()
	checkParse(t, text+" 1", want+"; int1@"+strconv.Itoa(len(text)+1))
}

// checkTyError checks the code and the offset within a type.
func checkTyError(t *testing.T, ty string, code int, at int) {
	t.Helper()
	const before = "type ('a, 'c) t = A of "
	checkParseError(t, before+ty+"; 1", code, len(before)+at)
}

// checkTy checks the type in the argument of a constructor whose type has the
// parameters 'a and 'c.
func checkTy(t *testing.T, ty string, want string) {
	t.Helper()
	checkTypes(t, "type ('a, 'c) t = A of "+ty+";", "type t/2 = A(true "+want+")")
}

func TestTypeDeclarations(t *testing.T) {
	checkTypes(t, "type t = A;", "type t/0 = A")
	checkTypes(t, "type t=A|B|C;", "type t/0 = A B C")
	checkTypes(t, "type t = A of int | B | C of t;", "type t/0 = A(true int/0) B C(true t/0)")
	checkTypes(t, "type 'a t = A of 'a;", "type t/1 = A(true '0)")
	checkTypes(t, "type 'z t = A of 'z t;", "type t/1 = A(true t/1 '0)")
	checkTypes(t, "type 'a t = A;", "type t/1 = A")
	checkTypes(t, "type ('a, 'b) t = A of 'a | B of 'b;", "type t/2 = A(true '0) B(true '1)")
	checkTypes(t, "type ('b, 'a) t = A of 'a | B of 'b;", "type t/2 = A(true '1) B(true '0)")
	checkTypes(t, "type t = A | A;", "type t/0 = A A")
	checkTypes(t, "type int = A;", "type int/0 = A")
	checkTypes(t, "type t = A; type 'a u = B of 'a; type t = C;", "type t/0 = A; type u/1 = B(true '0); type t/0 = C")
	checkTypes(t, "type 'a t = A of 'a; type 'b u = B of 'b;", "type t/1 = A(true '0); type u/1 = B(true '0)")
	checkParse(t, "type t = A; A", `type t/0 = A; con"A"@12`)
	checkParse(t, "1", `int1@0`)
}

func TestTypeExpressions(t *testing.T) {
	checkTy(t, "int", "int/0")
	checkTy(t, "'a", "'0")
	checkTy(t, "'c", "'1")
	checkTy(t, "list", "list/0")
	checkTy(t, "int list", "list/1 int/0")
	checkTy(t, "int list list", "list/1 list/1 int/0")
	checkTy(t, "'a ref", "ref/1 '0")
	checkTy(t, "int ref ref list", "list/1 ref/1 ref/1 int/0")
	checkTy(t, "('a, 'c) t", "t/2 '0 '1")
	checkTy(t, "('a, 'c) t list", "list/1 t/2 '0 '1")
	checkTy(t, "('a, 'c) t ref", "ref/1 t/2 '0 '1")
	checkTy(t, "((int, int) t, 'a -> 'a) int", "int/2 t/2 int/0 int/0 ->/2 '0 '0")
	checkTy(t, "(int)", "int/0")
	checkTy(t, "((int)) list", "list/1 int/0")
	checkTy(t, "a * b", "*/2 a/0 b/0")
	checkTy(t, "a * b * c", "*/2 a/0 */2 b/0 c/0")
	checkTy(t, "(a * b) * c", "*/2 */2 a/0 b/0 c/0")
	checkTy(t, "a -> b", "->/2 a/0 b/0")
	checkTy(t, "a -> b -> c", "->/2 a/0 ->/2 b/0 c/0")
	checkTy(t, "(a -> b) -> c", "->/2 ->/2 a/0 b/0 c/0")
	checkTy(t, "a * b -> c * d", "->/2 */2 a/0 b/0 */2 c/0 d/0")
	checkTy(t, "a * (b -> c) * d", "*/2 a/0 */2 ->/2 b/0 c/0 d/0")
	checkTy(t, "a * b list", "*/2 a/0 list/1 b/0")
	checkTy(t, "(a * b) list", "list/1 */2 a/0 b/0")
	checkTy(t, "a -> b list", "->/2 a/0 list/1 b/0")
	checkTy(t, "(a -> b) ref", "ref/1 ->/2 a/0 b/0")
	checkTy(t, "(a -> b, a * b) t", "t/2 ->/2 a/0 b/0 */2 a/0 b/0")
}

func TestTypeErrors(t *testing.T) {
	checkTyError(t, "'b", 7, 0)
	checkTyError(t, "int * 'b", 7, 6)
	checkTyError(t, "('a, 'd) t", 7, 5)
	checkTyError(t, "'a -> 'z list", 7, 6)
	checkTyError(t, "ref", 7, 0)
	checkTyError(t, "(int, int) ref", 7, 11)
	checkTyError(t, "(int, int)", 7, 10)
	checkTyError(t, "(int, int) 'a", 7, 11)
	checkTyError(t, "(int, int, int) t", 7, 9)
	checkTyError(t, "()", 7, 1)
	checkTyError(t, "(int", 7, 4)
	checkTyError(t, "int * ", 7, 6)
	checkTyError(t, "int ->", 7, 6)
	checkTyError(t, "* int", 7, 0)
	checkTyError(t, "-> int", 7, 0)
	checkTyError(t, "A", 7, 0)
	checkTyError(t, "int A", 7, 4)
	checkTyError(t, "int 'a", 7, 4)
	checkTyError(t, "'a 'a", 7, 3)
	checkTyError(t, "int (int)", 7, 4)
	checkTyError(t, "int * ref", 7, 6)
	checkTyError(t, "1", 7, 0)
	checkTyError(t, "_", 7, 0)
	checkTyError(t, "", 7, 0)
	checkTyError(t, "true", 7, 0)
}

func TestHeadErrors(t *testing.T) {
	checkParseError(t, "type ('a, 'a) t = A; 1", 7, 10)
	checkParseError(t, "type ('b,'b) t = A of 'c; 1", 7, 9)
	checkParseError(t, "type ('a) t = A; 1", 7, 8)
	checkParseError(t, "type () t = A; 1", 7, 6)
	checkParseError(t, "type ('a, 'b, 'c) t = A; 1", 7, 12)
	checkParseError(t, "type ('a, 'b) = A; 1", 7, 14)
	checkParseError(t, "type ('a, t) t = A; 1", 7, 10)
	checkParseError(t, "type ('a, 0) t = A; 1", 7, 10)
	checkParseError(t, "type (t, 'a) t = A; 1", 7, 6)
	checkParseError(t, "type 'a 'b t = A; 1", 7, 8)
	checkParseError(t, "type 'a = A; 1", 7, 8)
	checkParseError(t, "type ref = A; 1", 7, 5)
	checkParseError(t, "type 'a ref = A; 1", 7, 8)
	checkParseError(t, "type T = A; 1", 7, 5)
	checkParseError(t, "type t list = A; 1", 7, 7)
	checkParseError(t, "type t A; 1", 7, 7)
	checkParseError(t, "type t = a; 1", 7, 9)
	checkParseError(t, "type t = ; 1", 7, 9)
	checkParseError(t, "type t = | A; 1", 7, 9)
	checkParseError(t, "type t = A | ; 1", 7, 13)
	checkParseError(t, "type t = A B; 1", 7, 11)
	checkParseError(t, "type t = A int; 1", 7, 11)
	checkParseError(t, "type t = A of; 1", 7, 13)
	checkParseError(t, "type t = A of int of int; 1", 7, 18)
	checkParseError(t, "type t = true; 1", 7, 9)
	checkParseError(t, "type t = A 1", 7, 11)
	checkParseError(t, "type t = A;", 7, 11)
	checkParseError(t, "type t = A; type", 7, 16)
	checkParseError(t, "type t = A;; 1", 7, 11)
	checkParseError(t, "1; type t = A; 2", 7, 3)
	checkParseError(t, "type 'a t = A; type t = B of 'a; 1", 7, 29)
	checkParseError(t, "type t = A of 'a; 1", 7, 14)
	checkParseError(t, "type 'b t = A | B of 'a; 1", 7, 21)
}

func TestExprErrors(t *testing.T) {
	for _, e := range []struct {
		text string
		at   int
	}{
		{"", 0}, {"  ", 2}, {"(* a *)", 7}, {"1 +", 3}, {"1 + (* *) ", 10}, {"(1", 2}, {"(1,", 3}, {"(1, 2", 5}, {"(", 1}, {"[", 1},
		{"fun", 3}, {"fun x", 5}, {"fun x ->", 8}, {"let", 3}, {"let x", 5}, {"let x =", 7}, {"let x = 1", 9}, {"let x = 1 in", 12},
		{"let rec", 7}, {"let rec f", 9}, {"let rec f x", 11}, {"let rec f x = 1", 15}, {"if 1", 4}, {"if 1 then 2", 11}, {"if 1 then 2 else", 16},
		{"match 1", 7}, {"match 1 with", 12}, {"match 1 with x", 14}, {"match 1 with x -> 1", 19}, {"match 1 with x -> 1 |", 21},
		{"try 1", 5}, {"try 1 with", 10}, {"try 1 with x", 12}, {"try 1 with x -> 2", 17}, {"raise", 5}, {"ref", 3}, {"!", 1}, {"-", 1}, {"1 ;", 3}, {"x :=", 4}, {"type", 4},
		{")", 0}, {"1)", 1}, {"(1))", 3}, {"(1, 2, 3)", 5}, {"(,", 1}, {"(1,)", 3}, {"(1;)", 3}, {"[1]", 1}, {"]", 0}, {"[ (", 2}, {"1 ]", 2},
		{"'a", 0}, {"f 'a", 2}, {"_", 0}, {"f _", 2}, {"->", 0}, {"1 -> 2", 2}, {"|", 0}, {"of", 0}, {"1 of", 2}, {"end", 0}, {"1 end", 2}, {"rec", 0},
		{"fun 1 -> 2", 4}, {"fun _ -> 2", 4}, {"fun () -> 2", 4}, {"fun X -> 2", 4}, {"fun x y -> 2", 6}, {"fun x = 2", 6}, {"fun ref -> 1", 4},
		{"let X = 1 in 2", 4}, {"let _ = 1 in 2", 4}, {"let x y = 1 in 2", 6}, {"let (x, y) = 1 in 2", 4}, {"let x = 1; 2", 12}, {"let x := 1 in 2", 6},
		{"let rec x = 1 in 2", 10}, {"let rec f x y = 1 in 2", 12}, {"let rec f _ = 1 in 2", 10}, {"let rec F x = 1 in 2", 8}, {"let let", 4},
		{"if 1 else 2", 5}, {"if then", 3}, {"if 1 then else", 10}, {"if 1 then 2 end", 12}, {"then", 0},
		{"match 1 with | x -> 1 end", 13}, {"match 1 with end", 13}, {"match 1 with x -> 1 | end", 22}, {"match with", 6}, {"match 1 with x = 1 end", 15},
		{"match 1 with 1 + 2 -> 3 end", 15}, {"match 1 with \"a\" -> 3 end", 13}, {"match 1 with -x -> 3 end", 14}, {"match 1 with - -1 -> 3 end", 15},
		{"match 1 with x -> 1 end end", 24}, {"match 1 with (x, y, z) -> 3 end", 18}, {"match 1 with [x] -> 3 end", 14}, {"match 1 with x :: -> 3 end", 18},
		{"match 1 with 'a -> 1 end", 13}, {"match 1 with ref -> 1 end", 13}, {"match 1 with (x; y) -> 1 end", 15}, {"match 1 with (x, ) -> 1 end", 17},
		{"try 1 with 2 -> 3 end", 11}, {"try 1 with x -> 2 | y -> 3 end", 18}, {"try 1 with _ -> 2 end", 11}, {"try with", 4}, {"try 1 with X -> 2 end", 11},
		{"1 + fun x -> x", 4}, {"f fun x -> x", 2}, {"1 + let x = 1 in x", 4}, {"! if 1 then 2 else 3", 2}, {"x := fun y -> y", 5}, {"1 :: match 2 with x -> x end", 5},
		{"raise try 1 with x -> x end", 6}, {"f raise 1", 2}, {"f ref 1", 2}, {"f ! x", 2}, {"A ! x", 2}, {"A ref x", 2}, {"A raise 1", 2}, {"f let x = 1 in x", 2},
		{"+ 1", 0}, {"* 1", 0}, {"1 + * 2", 4}, {"1 * + 2", 4}, {"1 ^ ^", 4}, {"= 1", 0}, {"1 = = 2", 4}, {":= 1", 0}, {":: 1", 0}, {"1 :: ", 5}, {"1 :: :: 2", 5},
		{"a < b < c", 6}, {"a = b <> c", 6}, {"a <= b := c = d < e", 16}, {"; 1", 0}, {"1;", 2}, {"1;;2", 2}, {"1, 2", 1}, {"(1 2 fun", 5},
		{"match 1 with x -> 1 end 2", 24}, {"try 1 with x -> 1 end + 2", 22}, {"(fun x -> x", 11}, {"1 type t = A;", 2}, {"in", 0}, {"true = else", 7},
	} {
		checkParseError(t, e.text, 7, e.at)
	}
}

// TestParseOfLexErrors: the codes of Lex come before those of the parser, even
// if their tokens come later.
func TestParseOfLexErrors(t *testing.T) {
	for _, before := range []string{"", "1 + ", ") ", "match 1 with (x, x) ", strings.Repeat("(", 150), strings.Repeat("!", 700)} {
		at := len(before)
		checkParseError(t, before+"?", 2, at)
		checkParseError(t, before+"07", 3, at)
		checkParseError(t, before+`"a`, 4, at)
		checkParseError(t, before+`"\q"`, 4, at)
		checkParseError(t, before+"abcdefghijklm", 5, at)
		checkParseError(t, before+"(* (* *)", 6, at)
		checkParseError(t, before+"07 ?", 3, at)
		checkParseError(t, before+strings.Repeat(" ", impl.MaxText+1), 1, 0)
	}
	checkParseError(t, strings.Repeat("x", impl.MaxText+1), 1, 0)
	text := "1" + strings.Repeat(" ", impl.MaxText-1)
	checkParse(t, text, `int1@0`)
	checkParseError(t, text+" ", 1, 0)
	text = strings.Repeat(" ", impl.MaxText-2)
	checkParseError(t, text+"1+", 7, impl.MaxText)
	checkParseError(t, text+"1)", 7, impl.MaxText-1)
}

// TestParseResultIsNew fills every slice of a result up to its capacity, each
// with a number of its own, and expects to find the numbers there.
func TestParseResultIsNew(t *testing.T) {
	const text = "type 'a t = A of 'a * int | B of 'a t; match (1, 2) with (x, A y) -> x + y :: [] | (x, -1) -> B 2 :: [] end"
	want := shown(t, parsed(t, text))
	p := parsed(t, text)
	lists := []*[]int{}
	for i := range p.Nodes {
		lists = append(lists, &p.Nodes[i].Kids)
		for _, q := range p.Nodes[i].Pats {
			for j := range q.Nodes {
				lists = append(lists, &q.Nodes[j].Kids)
			}
		}
	}
	for i, l := range lists {
		whole := (*l)[:cap(*l)]
		for j := range whole {
			whole[j] = -i
		}
	}
	for i, l := range lists {
		if slices.ContainsFunc(*l, func(n int) bool { return n != -i }) {
			t.Errorf("a list of children shares its memory with another one")
		}
	}
	items := p.Types[0].Cons[0].Arg.Items
	clear(items[:cap(items)])
	if got := shownItem(p.Types[0].Cons[1].Arg.Items[0]); got != "t/1" {
		t.Errorf("the arguments of two constructors share their memory: %s", got)
	}
	pats := p.Nodes[0].Pats
	clear(pats[0].Nodes[:cap(pats[0].Nodes)])
	if pats[1].Nodes[0].Kind != impl.PPair {
		t.Errorf("two patterns share their memory")
	}
	clear(p.Nodes)
	checkParse(t, text, want)
}
