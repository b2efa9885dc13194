package tests

import (
	"math"
	"reflect"
	"slices"
	"testing"

	"loop.example/g00395/impl"
)

func TestTypesOfLeaves(t *testing.T) {
	checkTyped(t, "1", "int")
	checkTyped(t, "4611686018427387903", "int")
	checkTyped(t, `"a"`, "string")
	checkTyped(t, `""`, "string")
	checkTyped(t, "()", "unit")
	checkTyped(t, "true", "bool")
	checkTyped(t, "false", "bool")
	checkTyped(t, "[]", "('a) list")
	checkTyped(t, "print", "(int -> unit)")
	checkTyped(t, "say", "(string -> unit)")
	checkTyped(t, "read", "(unit -> int)")
	checkTyped(t, "size", "(string -> int)")
}

func TestTypesOfConstructors(t *testing.T) {
	checkTyped(t, "1 :: []", "(int) list")
	checkTyped(t, "1 :: 2 :: []", "(int) list")
	checkTyped(t, "fun x -> fun y -> x :: y", "('a -> (('a) list -> ('a) list))")
	checkTyped(t, "[] :: []", "(('a) list) list")
	checkTyped(t, "type t = A; A", "t")
	checkTyped(t, "type t = A of int; A 1", "t")
	checkTyped(t, "type 'a t = A; A", "('a) t")
	checkTyped(t, "type 'q t = A of 'q; A true", "(bool) t")
	checkTyped(t, "type 'a t = A of int; A 1", "('a) t")
	checkTyped(t, "type ('a, 'b) t = A of 'a | B of 'b; (A 1, B ())", "((int, 'a) t * ('b, unit) t)")
	checkTyped(t, "type ('b, 'a) t = A of 'a | B of 'b; (A 1, B ())", "(('a, int) t * (unit, 'b) t)")
	checkTyped(t, "type ('a, 'b) t = A of 'b * 'a; A (1, true)", "(bool, int) t")
	checkTyped(t, "type ('a, 'b) t = A; A", "('a, 'b) t")
	checkTyped(t, "type 'a t = N | C of 'a * 'a t; C (1, C (2, N))", "(int) t")
	checkTyped(t, "type t = A of u; type u = B | C of t; C (A B)", "u")
}

func TestTypesOfFunctions(t *testing.T) {
	checkTyped(t, "fun x -> x", "('a -> 'a)")
	checkTyped(t, "fun x -> 1", "('a -> int)")
	checkTyped(t, "fun x -> fun y -> x", "('a -> ('b -> 'a))")
	checkTyped(t, "fun x -> fun y -> y", "('a -> ('b -> 'b))")
	checkTyped(t, "fun x -> fun x -> x", "('a -> ('b -> 'b))")
	checkTyped(t, "fun f -> f 1", "((int -> 'a) -> 'a)")
	checkTyped(t, "fun f -> fun x -> f (f x)", "(('a -> 'a) -> ('a -> 'a))")
	checkTyped(t, "fun f -> fun x -> f x x", "(('a -> ('a -> 'b)) -> ('a -> 'b))")
	checkTyped(t, "fun f -> fun g -> fun x -> f x (g x)", "(('a -> ('b -> 'c)) -> (('a -> 'b) -> ('a -> 'c)))")
	checkTyped(t, "(fun x -> x) 1", "int")
	checkTyped(t, "(fun x -> x) (fun x -> x)", "('a -> 'a)")
	checkTyped(t, "print 1", "unit")
	checkTyped(t, "size (\"a\" ^ \"b\")", "int")
	checkTyped(t, "read ()", "int")
}

func TestTypesOfLets(t *testing.T) {
	checkTyped(t, "let x = 1 in x", "int")
	checkTyped(t, "let x = 1 in ()", "unit")
	checkTyped(t, "let x = 1 in fun y -> (x, y)", "('a -> (int * 'a))")
	checkTyped(t, "let rec f x = x in f", "('a -> 'a)")
	checkTyped(t, "let rec f x = if x < 1 then 1 else x * f (x - 1) in f 5", "int")
	checkTyped(t, "let rec f x = f x in f", "('a -> 'b)")
	checkTyped(t, "let rec f x = x in 1", "int")
	checkTyped(t, "let rec f x = fun y -> f y x in f", "('a -> ('a -> 'b))")
	checkTyped(t, "let rec map f = fun l -> match l with [] -> [] | x :: r -> f x :: map f r end in map", "(('a -> 'b) -> (('a) list -> ('b) list))")
	checkTyped(t, "let rec fold f = fun a -> fun l -> match l with [] -> a | x :: r -> fold f (f a x) r end in fold", "(('a -> ('b -> 'a)) -> ('a -> (('b) list -> 'a)))")
}

func TestTypesOfControl(t *testing.T) {
	checkTyped(t, "if true then 1 else 2", "int")
	checkTyped(t, "fun x -> if x then x else x", "(bool -> bool)")
	checkTyped(t, "fun x -> fun y -> fun z -> if x then y else z", "(bool -> ('a -> ('a -> 'a)))")
	checkTyped(t, "raise 1", "'a")
	checkTyped(t, "fun x -> raise x", "(int -> 'a)")
	checkTyped(t, "(raise 1, raise 1)", "('a * 'b)")
	checkTyped(t, "(raise 1) + (raise 2)", "int")
	checkTyped(t, "try 1 with x -> x end", "int")
	checkTyped(t, "try [] with x -> x :: [] end", "(int) list")
	checkTyped(t, "fun f -> try f 1 with x -> f x end", "((int -> 'a) -> 'a)")
	checkTyped(t, "try raise 1 with x -> \"a\" end", "string")
	checkTyped(t, "(); 1", "int")
	checkTyped(t, "print 1; say \"a\"; true", "bool")
	checkTyped(t, "fun x -> (x; x)", "(unit -> unit)")
	checkTyped(t, "fun x -> fun y -> (x; y)", "(unit -> ('a -> 'a))")
}

func TestTypesOfOperators(t *testing.T) {
	for _, sign := range []string{"+", "-", "*", "/", "%"} {
		checkTyped(t, "1 "+sign+" 2", "int")
		checkTyped(t, "fun x -> fun y -> x "+sign+" y", "(int -> (int -> int))")
	}
	for _, sign := range []string{"=", "<>", "<", "<="} {
		checkTyped(t, "1 "+sign+" 2", "bool")
		checkTyped(t, "fun x -> fun y -> x "+sign+" y", "(int -> (int -> bool))")
	}
	checkTyped(t, `"a" ^ "b"`, "string")
	checkTyped(t, "fun x -> fun y -> x ^ y", "(string -> (string -> string))")
	checkTyped(t, "- 1", "int")
	checkTyped(t, "fun x -> - x", "(int -> int)")
}

func TestTypesOfPairsAndReferences(t *testing.T) {
	checkTyped(t, "(1, true)", "(int * bool)")
	checkTyped(t, "((1, ()), [])", "((int * unit) * ('a) list)")
	checkTyped(t, "fun x -> fun y -> (y, (x, y))", "('a -> ('b -> ('b * ('a * 'b))))")
	checkTyped(t, "ref 1", "(int) ref")
	checkTyped(t, "ref []", "(('a) list) ref")
	checkTyped(t, "ref (ref ())", "((unit) ref) ref")
	checkTyped(t, "! (ref 1)", "int")
	checkTyped(t, "fun x -> ! x", "(('a) ref -> 'a)")
	checkTyped(t, "fun x -> ! (! x)", "((('a) ref) ref -> 'a)")
	checkTyped(t, "ref 1 := 2", "unit")
	checkTyped(t, "fun x -> fun y -> x := y", "(('a) ref -> ('a -> unit))")
	checkTyped(t, "fun x -> x := !x", "(('a) ref -> unit)")
	checkTyped(t, "let r = ref [] in r := 1 :: !r; r", "((int) list) ref")
}

func TestTypesOfPatterns(t *testing.T) {
	checkTyped(t, "fun v -> match v with _ -> 1 end", "('a -> int)")
	checkTyped(t, "fun v -> match v with x -> x end", "('a -> 'a)")
	checkTyped(t, "fun v -> match v with 1 -> () end", "(int -> unit)")
	checkTyped(t, "fun v -> match v with - 1 -> () end", "(int -> unit)")
	checkTyped(t, "fun v -> match v with () -> 1 end", "(unit -> int)")
	checkTyped(t, "fun v -> match v with true -> 1 end", "(bool -> int)")
	checkTyped(t, "fun v -> match v with false -> 1 end", "(bool -> int)")
	checkTyped(t, "fun v -> match v with [] -> 1 end", "(('a) list -> int)")
	checkTyped(t, "fun v -> match v with x :: y -> y end", "(('a) list -> ('a) list)")
	checkTyped(t, "fun v -> match v with x :: y -> x end", "(('a) list -> 'a)")
	checkTyped(t, "fun v -> match v with (x, y) -> y end", "(('a * 'b) -> 'b)")
	checkTyped(t, "fun v -> match v with (x, y) -> (y, x) end", "(('a * 'b) -> ('b * 'a))")
	checkTyped(t, "fun v -> match v with (_, (_, 1)) -> () end", "(('a * ('b * int)) -> unit)")
	checkTyped(t, "fun v -> match v with (x, 1) :: _ -> x end", "((('a * int)) list -> 'a)")
	checkTyped(t, "type t = A; fun v -> match v with A -> 1 end", "(t -> int)")
	checkTyped(t, "type t = A of int; fun v -> match v with A x -> x end", "(t -> int)")
	checkTyped(t, "type 'a t = A of 'a; fun v -> match v with A x -> x end", "(('a) t -> 'a)")
	checkTyped(t, "type 'a t = A of 'a; fun v -> match v with A (A 1) -> () end", "(((int) t) t -> unit)")
	checkTyped(t, "type ('a, 'b) t = A of 'b | B of 'a; fun v -> match v with A x -> (1, x) | B y -> (y, true) end", "((int, bool) t -> (int * bool))")
	checkTyped(t, "fun v -> match v with x -> 1 | 2 -> 3 | _ -> 4 end", "(int -> int)")
	checkTyped(t, "fun v -> match v with (x, 1) -> x | (2, y) -> y end", "((int * int) -> int)")
	checkTyped(t, "fun v -> match v with (x, _) -> x | (_, y) -> y end", "(('a * 'a) -> 'a)")
	checkTyped(t, "fun f -> match f 1 with x -> x end", "((int -> 'a) -> 'a)")
	checkTyped(t, "match (1, true) with (x, y) -> if y then x else 0 end", "int")
	checkTyped(t, "fun v -> match v with x -> match x with (x, y) -> x end end", "(('a * 'b) -> 'a)")
}

// TestHiddenNames: the innermost binding counts, also if it hides a predefined
// name.
func TestHiddenNames(t *testing.T) {
	checkTyped(t, "let x = 1 in let x = true in x", "bool")
	checkTyped(t, "let x = 1 in (let x = true in x, x)", "(bool * int)")
	checkTyped(t, "let x = 1 in let x = (x, x) in x", "(int * int)")
	checkTyped(t, "let print = 1 in print + 1", "int")
	checkTyped(t, "let size = read () in size", "int")
	checkTyped(t, "fun say -> say", "('a -> 'a)")
	checkTyped(t, "(fun read -> read + 1) 1", "int")
	checkTyped(t, "(let size = 1 in size, size)", "(int * (string -> int))")
	checkTyped(t, "let rec print x = print (x ^ \"a\") in print", "(string -> 'a)")
	checkTyped(t, "let rec f f = f + 1 in f", "(int -> int)")
	checkTyped(t, "let rec say say = say in say", "('a -> 'a)")
	checkTyped(t, "fun x -> try x with x -> x + 1 end", "(int -> int)")
	checkTyped(t, "try \"a\" with read -> say \"b\"; if read = 1 then \"c\" else \"d\" end", "string")
	checkTyped(t, "fun x -> match x with (x, y) -> x + 1 | x -> 2 end", "((int * 'a) -> int)")
	checkTyped(t, "match (\"a\", 1) with (print, say) -> print ^ \"a\" end", "string")
	checkTyped(t, "fun x -> match 1 with y -> x | x -> x end", "(int -> int)")
	checkTyped(t, "type print = Print of int; print", "(int -> unit)")
	checkTyped(t, "type t = Print of print; type print = A; fun t -> Print t", "(print -> t)")
	checkFault(t, "(fun x -> x, @x)", 21)
	checkFault(t, "(let x = 1 in x, @x)", 21)
	checkFault(t, "let x = @x in x", 21)
	checkFault(t, "let rec f x = x in @x", 21)
	checkFault(t, "(let rec f x = x in f, @f)", 21)
	checkFault(t, "try @x with x -> x end", 21)
	checkFault(t, "match @x with x -> x end", 21)
	checkFault(t, "match 1 with x -> x | _ -> @x end", 21)
	checkFault(t, "match 1 with _ -> @x | x -> x end", 21)
}

// TestAtHasNoInfluence: the offset of an error is the At of its node, whatever
// that is.
func TestAtHasNoInfluence(t *testing.T) {
	for _, at := range []int{0, 1, 7, impl.MaxText + 1, math.MaxInt} {
		p := parsed(t, "let f = fun x -> x + 1 in f true")
		for i := range p.Nodes {
			p.Nodes[i].At = 0
		}
		call := len(p.Nodes) - 3
		p.Nodes[call].At = at
		if _, code, got := inferred(t, p); p.Nodes[call].Kind != impl.EApp || code != 24 || got != at {
			t.Errorf("the code is %d at %d, not 24 at %d", code, got, at)
		}
		p.Nodes[call+2].S = "false"
		p.Nodes[call].At, p.Nodes[0].At = -1, at
		if got, code, at := inferred(t, p); code != 1 || at != 0 || len(got.Items) > 0 {
			t.Errorf("a negative At has code %d at %d", code, at)
		}
	}
	p := parsed(t, everyForm)
	_, code, _ := inferred(t, p)
	for i := range p.Nodes {
		p.Nodes[i].At = math.MaxInt - i
	}
	if _, other, _ := inferred(t, p); other != code {
		t.Errorf("the code is %d, and %d with other offsets", code, other)
	}
}

// TestInferLeavesItsArguments: nothing is changed, and a result that is changed
// has no influence on anything else.
func TestInferLeavesItsArguments(t *testing.T) {
	for _, text := range []string{
		"type 'a t = A of int list * 'a | B; fun x -> match x with A (l, y) -> A (l, y) | B -> B end",
		"type t = A of int list; match A [] with A x -> x end", "fun x -> x x", everyForm,
	} {
		p := roomyProgram(parsed(t, text))
		before := stretched(p)
		pats := []impl.Pat{}
		for _, n := range p.Nodes {
			pats = append(pats, n.Pats...)
		}
		l := roomy(slices.Clone(pats), impl.Pat{Nodes: []impl.PNode{{Kind: 85}}})
		for range 2 {
			first, code, _ := inferred(t, p)
			if code == 0 {
				spoil(first)
			}
			impl.CheckTypes(p)
			if common, code := impl.PatsTy(p, l); code == 0 {
				spoil(common)
			}
		}
		if !reflect.DeepEqual(stretched(p), before) || !reflect.DeepEqual(l, pats) || l[:cap(l)][len(l)].Nodes[0].Kind != 85 {
			t.Errorf("an argument has changed: %s", brief(text))
		}
	}
}
