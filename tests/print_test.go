package tests

import (
	"strconv"
	"strings"
	"testing"

	"loop.example/g00395/impl"
)

const remark = " (* ( \" 07 (**) *)\n"

// checkPrinted checks how a program is printed, and that its text, also with
// a comment ahead of it, is parsed as the same program.
func checkPrinted(t *testing.T, p impl.Program, want string) {
	t.Helper()
	if got := impl.PrintProgram(p); got != want {
		t.Errorf("PrintProgram is\n%s, not\n%s", brief(got), brief(want))
		return
	}
	if !impl.ProgramOk(p) {
		t.Errorf("ProgramOk is false for %s", brief(want))
	}
	for _, ahead := range []string{"", remark} {
		if len(ahead+want) > impl.MaxText {
			return
		}
		q, code, at := impl.Parse(ahead + want)
		if code != 0 {
			t.Errorf("Parse(%q): code %d at %d", brief(ahead+want), code, at)
			return
		}
		if withoutPlaces(shown(t, q)) != withoutPlaces(shown(t, p)) {
			t.Errorf("%s is parsed as %s", brief(want), brief(shown(t, q)))
		}
		if !impl.SameProgram(p, q) || !impl.SameProgram(q, p) || impl.PrintProgram(q) != want {
			t.Errorf("%s is parsed as another program, %s", brief(want), brief(impl.PrintProgram(q)))
		}
	}
	checkRemark(t, want)
}

// checkRemark checks that a comment ahead of a text moves all offsets and
// changes nothing else.
func checkRemark(t *testing.T, text string) {
	t.Helper()
	p := moved(parsed(t, text), func(at int) int { return at + len(remark) })
	if q := parsed(t, remark+text); shown(t, p) != shown(t, q) {
		t.Errorf("with a comment, %s is parsed as %s", brief(text), brief(shown(t, q)))
	}
}

// checkPrint is checkPrinted for the program of a text.
func checkPrint(t *testing.T, text string, want string) {
	t.Helper()
	checkPrinted(t, parsed(t, text), want)
}

func TestPrintLeaves(t *testing.T) {
	checkPrint(t, "0", "0")
	checkPrint(t, " ((7)) ", "7")
	checkPrint(t, "4611686018427387903", "4611686018427387903")
	checkPrint(t, `""`, `""`)
	checkPrint(t, `"a b"`, `"a b"`)
	checkPrint(t, `"\"\\\n\x00\xff(*"`, `"\"\\\n\x00\xff(*"`)
	checkPrint(t, `"::"`, `"::"`)
	checkPrint(t, "x", "x")
	checkPrint(t, "abcdefghij_1", "abcdefghij_1")
	checkPrint(t, "()", "()")
	checkPrint(t, "( (**) )", "()")
	for _, name := range []string{"A", "Abcdefghij_1", "true", "false", "[]"} {
		checkPrint(t, name, name)
		checkPrint(t, "("+name+")", name)
	}
	checkPrint(t, "[ ]", "[]")
}

func TestPrintConstructors(t *testing.T) {
	checkPrint(t, "A 1", "(A 1)")
	checkPrint(t, "A (B 1)", "(A (B 1))")
	checkPrint(t, "A B", "(A B)")
	checkPrint(t, "A true", "(A true)")
	checkPrint(t, "A []", "(A [])")
	checkPrint(t, "A ()", "(A ())")
	checkPrint(t, "A (1, 2)", "(A (1, 2))")
	checkPrint(t, "A (1 :: 2)", "(A (1 :: 2))")
	checkPrint(t, "1 :: 2", "(1 :: 2)")
	checkPrint(t, "1 :: 2 :: []", "(1 :: (2 :: []))")
	checkPrint(t, "(1 :: 2) :: 3", "((1 :: 2) :: 3)")
	checkPrint(t, "(1, 2) :: (3, 4)", "((1, 2) :: (3, 4))")
	checkPrint(t, "(1 :: 2, 3 :: 4)", "((1 :: 2), (3 :: 4))")
	checkPrint(t, "A :: B", "(A :: B)")
	checkPrint(t, "A 1 :: B", "((A 1) :: B)")
	checkPrint(t, `"::" :: "::"`, `("::" :: "::")`)
	checkPrint(t, `("::", "::")`, `("::", "::")`)
}

func TestPrintApplications(t *testing.T) {
	checkPrint(t, "f x", "(f x)")
	checkPrint(t, "f x y", "((f x) y)")
	checkPrint(t, "f (x y)", "(f (x y))")
	checkPrint(t, "f ()", "(f ())")
	checkPrint(t, "f (1, 2)", "(f (1, 2))")
	checkPrint(t, "f A", "(f A)")
	checkPrint(t, "f A b", "((f A) b)")
	checkPrint(t, "(A) x", "((A) x)")
	checkPrint(t, "(A) B", "((A) B)")
	checkPrint(t, "(A) x y", "(((A) x) y)")
	checkPrint(t, "A x y", "((A x) y)")
	checkPrint(t, "A B y", "((A B) y)")
	checkPrint(t, "(A) (B) c", "(((A) B) c)")
	checkPrint(t, "A ((B) c)", "(A ((B) c))")
	checkPrint(t, "true x", "((true) x)")
	checkPrint(t, "(false) true", "((false) true)")
	checkPrint(t, "[] []", "(([]) [])")
	checkPrint(t, "(1 :: 2) x", "((1 :: 2) x)")
	checkPrint(t, "(1, A) x", "((1, A) x)")
	checkPrint(t, "1 2", "(1 2)")
	checkPrint(t, "() \"a\"", "(() \"a\")")
	checkPrint(t, "(fun x -> A) 1", "((fun x -> A) 1)")
}

func TestPrintForms(t *testing.T) {
	checkPrint(t, "fun x -> y", "(fun x -> y)")
	checkPrint(t, "fun x -> fun y -> x", "(fun x -> (fun y -> x))")
	checkPrint(t, "let x = 1 in y", "(let x = 1 in y)")
	checkPrint(t, "let x = let y = 1 in 2 in let z = 3 in 4", "(let x = (let y = 1 in 2) in (let z = 3 in 4))")
	checkPrint(t, "let rec f x = 1 in y", "(let rec f x = 1 in y)")
	checkPrint(t, "let rec f x = fun y -> 1 in fun z -> 2", "(let rec f x = (fun y -> 1) in (fun z -> 2))")
	checkPrint(t, "let rec f f = let rec g x = 1 in 2 in 3", "(let rec f f = (let rec g x = 1 in 2) in 3)")
	checkPrint(t, "if a then b else c", "(if a then b else c)")
	checkPrint(t, "if if a then b else c then A else fun x -> B", "(if (if a then b else c) then A else (fun x -> B))")
	checkPrint(t, "(1, x)", "(1, x)")
	checkPrint(t, "((1, 2), ((), A))", "((1, 2), ((), A))")
	checkPrint(t, "match a with b -> c end", "(match a with b -> c end)")
	checkPrint(t, "match a with 1->2|x->3|_->4 end", "(match a with 1 -> 2 | x -> 3 | _ -> 4 end)")
	checkPrint(t, "match match a with _ -> 1 end with x -> match b with _ -> 2 end | A y -> 3 end", "(match (match a with _ -> 1 end) with x -> (match b with _ -> 2 end) | (A y) -> 3 end)")
	checkPrint(t, "raise 1", "(raise 1)")
	checkPrint(t, "raise raise A", "(raise (raise A))")
	checkPrint(t, "try 1 with e -> 2 end", "(try 1 with e -> 2 end)")
	checkPrint(t, "try try A with x -> B end with y -> C end", "(try (try A with x -> B end) with y -> C end)")
	checkPrint(t, "ref x", "(ref x)")
	checkPrint(t, "!x", "(! x)")
	checkPrint(t, "!ref !A", "(! (ref (! A)))")
	checkPrint(t, "x:=y", "(x := y)")
	checkPrint(t, "x:=A:=z", "(x := (A := z))")
	checkPrint(t, "x;y", "(x; y)")
	checkPrint(t, "x;A;(y;z);u", "(x; (A; ((y; z); u)))")
}

func TestPrintOperators(t *testing.T) {
	for _, op := range []string{"=", "<>", "<", "<=", "+", "-", "*", "/", "%", "^"} {
		checkPrint(t, "a"+op+"b", "(a "+op+" b)")
		checkPrint(t, "(a"+op+"b)"+op+"(c"+op+"d)", "((a "+op+" b) "+op+" (c "+op+" d))")
		checkPrint(t, "A"+op+"\"s\"", "(A "+op+" \"s\")")
	}
	checkPrint(t, "1+2*3-4", "((1 + (2 * 3)) - 4)")
	checkPrint(t, "-x", "(0 - x)")
	checkPrint(t, "- -1", "(0 - (0 - 1))")
	checkPrint(t, "0 - 1", "(0 - 1)")
	checkPrint(t, "-4611686018427387903", "(0 - 4611686018427387903)")
	checkPrint(t, "f (-1) - 2", "((f (0 - 1)) - 2)")
}

func TestPrintTypes(t *testing.T) {
	checkPrint(t, "type t=A;1", "type t = A; 1")
	checkPrint(t, "type t=A|B of int|C;x", "type t = A | B of int | C; x")
	checkPrint(t, "type 'q t = A of 'q | B of 'q list; ()", "type 'a t = A of 'a | B of ('a) list; ()")
	checkPrint(t, "type ('z, 'a) t = A of 'a | B of 'z | C of 'z * 'a; ()", "type ('a, 'b) t = A of 'b | B of 'a | C of ('a * 'b); ()")
	checkPrint(t, "type t = A; type 'a u = B; type ('a, 'b) v = C; fun x -> x", "type t = A; type 'a u = B; type ('a, 'b) v = C; (fun x -> x)")
	checkPrint(t, "type t = A of int -> t -> t * int * t list ref; 1", "type t = A of (int -> (t -> (t * (int * ((t) list) ref)))); 1")
	checkPrint(t, "type ('a, 'b) t = A of (int, 'b) t | B of ('a -> 'b, ('b, 'a) t) t t; 1", "type ('a, 'b) t = A of (int, 'b) t | B of ((('a -> 'b), ('b, 'a) t) t) t; 1")
	checkPrint(t, "type t = A of (int -> int) * int; 1", "type t = A of ((int -> int) * int); 1")
	checkPrint(t, "type t = A of (unit) int; 1", "type t = A of (unit) int; 1")
	checkPrint(t, "type t = A of (t, t) list; 1", "type t = A of (t, t) list; 1")
	all, printed := "", ""
	for range impl.MaxTypes {
		all += "type t=A" + strings.Repeat("|B of t", impl.MaxCons-1) + ";"
		printed += "type t = A" + strings.Repeat(" | B of t", impl.MaxCons-1) + "; "
	}
	checkPrint(t, all+"1", printed+"1")
}

func tyVar(n int) impl.TyItem { return impl.TyItem{Var: n} }

func tyCon(name string, arity int) impl.TyItem { return impl.TyItem{Name: name, Arity: arity} }

func tyOf(items ...impl.TyItem) impl.Ty { return impl.Ty{Items: items} }

func checkPrintTy(t *testing.T, want string, items ...impl.TyItem) {
	t.Helper()
	ty := tyOf(items...)
	if !impl.TyOk(ty) {
		t.Errorf("TyOk is false for %s", brief(want))
	}
	if got := impl.PrintTy(ty); got != want {
		t.Errorf("PrintTy is %q, not %q", brief(got), brief(want))
	}
}

func TestPrintTy(t *testing.T) {
	for n, letter := range "abcdefghijklmnopqrstuvwxyz" {
		checkPrintTy(t, "'"+string(letter), tyVar(n))
	}
	for _, n := range []int{26, 27, 99, 100, 9998, 9999} {
		checkPrintTy(t, "'z"+strconv.Itoa(n), tyVar(n))
	}
	for _, name := range []string{"int", "bool", "string", "unit", "list", "t", "abcdefghij_K"} {
		checkPrintTy(t, name, tyCon(name, 0))
		checkPrintTy(t, "('b) "+name, tyCon(name, 1), tyVar(1))
		checkPrintTy(t, "('b, int) "+name, tyCon(name, 2), tyVar(1), tyCon("int", 0))
	}
	checkPrintTy(t, "(t) ref", tyCon("ref", 1), tyCon("t", 0))
	checkPrintTy(t, "('a -> 'b)", tyCon("->", 2), tyVar(0), tyVar(1))
	checkPrintTy(t, "('z30 * t)", tyCon("*", 2), tyVar(30), tyCon("t", 0))
	checkPrintTy(t, "(('a -> int) -> ('a * ('b, ('c) ref) t))",
		tyCon("->", 2), tyCon("->", 2), tyVar(0), tyCon("int", 0), tyCon("*", 2), tyVar(0), tyCon("t", 2), tyVar(1), tyCon("ref", 1), tyVar(2))
	checkPrintTy(t, "(((('a) list) ref, 'b) t -> ((int * int) * int))",
		tyCon("->", 2), tyCon("t", 2), tyCon("ref", 1), tyCon("list", 1), tyVar(0), tyVar(1), tyCon("*", 2), tyCon("*", 2), tyCon("int", 0), tyCon("int", 0), tyCon("int", 0))
}

// patOf is the pattern of a text.
func patOf(t *testing.T, text string) impl.Pat {
	t.Helper()
	return parsed(t, "match 0 with "+text+" -> 0 end").Nodes[0].Pats[0]
}

func checkPrintPat(t *testing.T, text string, want string) {
	t.Helper()
	q := patOf(t, text)
	if !impl.PatOk(q) {
		t.Errorf("PatOk is false for %s", text)
	}
	if got := impl.PrintPat(q); got != want {
		t.Errorf("PrintPat of %s is %q, not %q", text, got, want)
	}
	if got := shownPat(t, patOf(t, want)); got != shownPat(t, q) {
		t.Errorf("%s is parsed as %s", want, got)
	}
	checkPrint(t, "match 0 with "+text+" -> 0 end", "(match 0 with "+want+" -> 0 end)")
}

func TestPrintPat(t *testing.T) {
	for _, leaf := range []string{"_", "x", "abcdefghij_1", "0", "7", "4611686018427387903", "A", "Abcdefghij_1", "true", "false", "[]", "()"} {
		checkPrintPat(t, leaf, leaf)
		checkPrintPat(t, "(("+leaf+"))", leaf)
		checkPrintPat(t, "A "+leaf, "(A "+leaf+")")
		checkPrintPat(t, "("+leaf+",y)", "("+leaf+", y)")
		checkPrintPat(t, "(y,"+leaf+")", "(y, "+leaf+")")
		checkPrintPat(t, leaf+"::y", "("+leaf+" :: y)")
		checkPrintPat(t, "y::"+leaf, "(y :: "+leaf+")")
	}
	checkPrintPat(t, "- 7", "-7")
	checkPrintPat(t, "- 0", "0")
	checkPrintPat(t, "-4611686018427387903", "-4611686018427387903")
	checkPrintPat(t, "A (-7)", "(A -7)")
	checkPrintPat(t, "-1 :: -2", "(-1 :: -2)")
	checkPrintPat(t, "(-1, -2)", "(-1, -2)")
	checkPrintPat(t, "A B C x", "(A (B (C x)))")
	checkPrintPat(t, "A (x, y)", "(A (x, y))")
	checkPrintPat(t, "A (x :: y)", "(A (x :: y))")
	checkPrintPat(t, "A x :: y", "((A x) :: y)")
	checkPrintPat(t, "x :: y :: []", "(x :: (y :: []))")
	checkPrintPat(t, "(x :: y) :: []", "((x :: y) :: [])")
	checkPrintPat(t, "(x, y) :: (z, u)", "((x, y) :: (z, u))")
	checkPrintPat(t, "(x :: y, (z, u))", "((x :: y), (z, u))")
}
