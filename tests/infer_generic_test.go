package tests

import "testing"

// checkGeneric checks that the function or list to which f is bound can be
// used with numbers and with booleans.
func checkGeneric(t *testing.T, let string) {
	t.Helper()
	checkTyped(t, let+"(f 1, f true)", "(int * bool)")
	checkTyped(t, let+"(f true, f 1)", "(bool * int)")
}

// checkFixed checks that the second use must be of the type of the first.
func checkFixed(t *testing.T, let string) {
	t.Helper()
	checkTyped(t, let+"(f 1, f 2)", "(int * int)")
	checkTyped(t, let+"(f true, f true)", "(bool * bool)")
	checkFault(t, let+"(f 1, f @true)", 24)
	checkFault(t, let+"(f true, f @1)", 24)
}

// TestGenericValues has a let of every kind of value.
func TestGenericValues(t *testing.T) {
	checkGeneric(t, "let f = fun x -> x in ")
	checkGeneric(t, "let g = fun x -> x in let f = g in ")
	checkGeneric(t, "let g = fun x -> x in let h = g in let f = h in ")
	checkGeneric(t, "let f = fun x -> (fun y -> y) x in ")
	checkTyped(t, "let n = [] in (1 :: n, true :: n)", "((int) list * (bool) list)")
	checkTyped(t, "let n = [] :: [] in ((1 :: []) :: n, (true :: []) :: n)", "(((int) list) list * ((bool) list) list)")
	checkTyped(t, "let p = (fun x -> x, []) in (p, p)", "((('a -> 'a) * ('b) list) * (('c -> 'c) * ('d) list))")
	checkTyped(t, "let p = ((), ([], (1, (\"a\", [])))) in p", "(unit * (('a) list * (int * (string * ('b) list))))")
	checkTyped(t, "type 'a o = N | S of 'a; let n = N in (n, n)", "(('a) o * ('b) o)")
	checkTyped(t, "type 'a o = N | S of 'a; let n = S N in (n, n)", "((('a) o) o * (('b) o) o)")
	checkTyped(t, "type 'a o = N | S of 'a; let n = S (N, fun x -> x) in (n, n)", "(((('a) o * ('b -> 'b))) o * ((('c) o * ('d -> 'd))) o)")
	checkTyped(t, "let a = 1 in let b = \"a\" in let c = () in (a + 1, (b ^ b, (c; c)))", "(int * (string * unit))")
	checkTyped(t, "let f = fun x -> fun y -> (x, y) in (f 1 true, f () f)", "((int * bool) * (unit * ('a -> ('b -> ('a * 'b)))))")
	checkTyped(t, "let f = fun x -> x in f f", "('a -> 'a)")
	checkTyped(t, "let f = fun x -> x in f f f (f f)", "('a -> 'a)")
	checkFault(t, "let f = fun x -> fun y -> if true then x else y in (f 1 2, f 1 @true)", 24)
}

// TestGenericRecs: a function that is bound by let rec is generic, except
// within itself.
func TestGenericRecs(t *testing.T) {
	checkGeneric(t, "let rec f x = x in ")
	checkGeneric(t, "let rec f x = if true then x else f x in ")
	checkGeneric(t, "let rec g x = x in let f = g in ")
	checkFault(t, "let rec f x = (f 1, f @true) in 1", 24)
	checkFault(t, "let rec f x = (let g = f in (g 1, g @true)) in 1", 24)
	checkFault(t, "let rec f x = (let g = fun y -> f y in (g 1, g @true)) in 1", 24)
	checkFault(t, "let rec f x = (let g = fun y -> x in (g 1 + 1, size @(g 1))) in 1", 24)
	checkTyped(t, "let rec f x = (let g = fun y -> y in (g 1, g true)) in f", "('a -> (int * bool))")
	checkTyped(t, "let rec f x = fun y -> f y x in (f 1, f true)", "((int -> 'a) * (bool -> 'b))")
	checkTyped(t, "let rec f x = (let rec g y = (x, y) in (g 1, g true)) in (f 1, f ())", "(((int * int) * (int * bool)) * ((unit * int) * (unit * bool)))")
}

// TestNoValues has a let of every kind of expression that is no value, as far
// as its type can have variables.
func TestNoValues(t *testing.T) {
	for _, form := range []string{
		"(fun x -> x) (fun x -> x)", "let y = 1 in fun x -> x", "let y = fun x -> x in y", "let rec g x = x in g",
		"if true then fun x -> x else fun x -> x", "match 1 with _ -> fun x -> x end", "try fun x -> x with e -> fun x -> x end",
		"! (ref (fun x -> x))", "(); fun x -> x",
	} {
		checkFixed(t, "let f = "+form+" in ")
		checkTyped(t, "let f = "+form+" in f", "('a -> 'a)")
		checkTyped(t, "let f = "+form+" in (f, f)", "(('a -> 'a) * ('a -> 'a))")
	}
	checkTyped(t, "let x = raise 1 in (x, x)", "('a * 'a)")
	checkFault(t, "let x = raise 1 in (x + 1, x @^ \"a\")", 24)
	checkFault(t, "let n = ref [] in (n := 1 :: [], n @:= true :: [])", 24)
	checkFault(t, "let n = (fun x -> x) [] in (1 :: n, true @:: n)", 24)
	checkFault(t, "let n = (raise 1) :: [] in (1 :: n, true @:: n)", 24)
	checkFault(t, "let n = (ref []) :: [] in match n with a :: b -> a := 1 :: []; a @:= true :: [] | _ -> () end", 24)
	checkFault(t, "type 'a o = N | S of 'a; let n = S (raise 1) in match n with S x -> (x + 1, x @^ \"a\") | _ -> (1, \"a\") end", 24)
	checkTyped(t, "type 'a o = N | S of 'a; let n = S (ref N) in (n, n)", "(((('a) o) ref) o * ((('a) o) ref) o)")
}

// TestValuesOfParts: a pair or a constructor is a value only if all of its
// parts are.
func TestValuesOfParts(t *testing.T) {
	const both = "(('a) list * ('b) list)"
	first := " in match (p, p) with ((a, b), (c, d)) -> (a, c) end"
	checkTyped(t, "let p = ([], [])"+first, both)
	checkTyped(t, "let p = ([], fun x -> raise x)"+first, both)
	checkTyped(t, "let p = ([], (1, (\"a\", ())))"+first, both)
	checkTyped(t, "let p = ([], 1 :: (2 :: []))"+first, both)
	for _, other := range []string{"raise 1", "ref 1", "print 1", "! r", "1 + 1", "(); 1", "r := 1", "let x = 1 in x", "(1, print 1)", "(print 1, 1)", "(print 1) :: []", "(1, read ()) :: []"} {
		checkTyped(t, "let r = ref 1 in let p = ([], "+other+")"+first, "(('a) list * ('a) list)")
		checkTyped(t, "let r = ref 1 in let q = ("+other+", []) in match (q, q) with ((a, b), (c, d)) -> (b, d) end", "(('a) list * ('a) list)")
	}
}

// TestEnclosingBindings: what occurs in the type of an enclosing binding is
// not generic, however this binding was made.
func TestEnclosingBindings(t *testing.T) {
	checkTyped(t, "fun x -> let y = x in (y, y)", "('a -> ('a * 'a))")
	checkTyped(t, "fun x -> let f = fun y -> x in (f 1, f true)", "('a -> ('a * 'a))")
	checkTyped(t, "fun x -> let f = fun y -> (x, y) in (f 1, f true)", "('a -> (('a * int) * ('a * bool)))")
	checkTyped(t, "fun x -> let rec f y = x in (f 1, f true)", "('a -> ('a * 'a))")
	checkFault(t, "fun x -> let f = x in (f 1, f @true)", 24)
	checkFault(t, "fun x -> let f = fun y -> x y in (f 1, f @true)", 24)
	checkFault(t, "fun x -> let rec f y = x y in (f 1, f @true)", 24)
	checkFault(t, "fun x -> let g = x in let f = g in (f 1, f @true)", 24)
	checkFault(t, "fun x -> fun y -> fun z -> let f = x in (f 1, f @true)", 24)
	checkFault(t, "match raise 1 with x -> let f = x in (f 1, f @true) end", 24)
	checkFault(t, "match raise 1 with (1, x) :: _ -> let f = x in (f 1, f @true) end", 24)
	checkFault(t, "let g = ! (ref (fun x -> x)) in let f = g in (f 1, f @true)", 24)
	checkFault(t, "let r = ref [] in let f = fun x -> r in (f 1 := 1 :: [], f 2 @:= true :: [])", 24)
	checkFault(t, "let r = ref [] in let rec f x = r in (f 1 := 1 :: [], f 2 @:= true :: [])", 24)
	checkTyped(t, "let r = ref [] in let f = fun x -> r in (f, f)", "(('a -> (('b) list) ref) * ('c -> (('b) list) ref))")
	checkTyped(t, "fun x -> let p = (x, []) in (p, p)", "('a -> (('a * ('b) list) * ('a * ('c) list)))")
	checkTyped(t, "fun x -> let p = fun y -> fun z -> (x, (y, (x, z))) in (p 1, p true ())",
		"('a -> (('b -> ('a * (int * ('a * 'b)))) * ('a * (bool * ('a * unit)))))")
	checkTyped(t, "try raise 1 with e -> let f = fun x -> (e, x) in (f (), f e) end", "((int * unit) * (int * int))")
}

// TestConstraintsBeforeALet: a variable has become that of an enclosing
// binding, or part of its type, before or within the first child of a let.
func TestConstraintsBeforeALet(t *testing.T) {
	checkFixed(t, "let r = ref (raise 1) in let f = fun y -> (r := y; y) in ")
	checkFault(t, "fun x -> let f = fun y -> if true then x else y in (f 1, f @true)", 24)
	checkFault(t, "fun x -> let f = fun y -> (x := y; y) in (f 1, f @true)", 24)
	checkFault(t, "fun x -> let f = fun y -> (x := y :: []; y) in (f 1, f @true)", 24)
	checkFault(t, "fun x -> let rec f y = (x := y; y) in (f 1, f @true)", 24)
	checkFault(t, "fun x -> fun y -> (x := y; let f = y in (f 1, f @true))", 24)
	checkFault(t, "fun x -> match x with (a, b) :: r -> let f = b in (f 1, f @true) | _ -> raise 1 end", 24)
	checkFault(t, "fun x -> ((match x with a :: r -> () | _ -> () end); let y = x in (1 :: y, true @:: y))", 24)
	checkFault(t, "fun g -> let f = fun y -> g (y, y) in (f 1, f @true)", 24)
	checkTyped(t, "fun x -> let f = fun y -> fun z -> (x := y; z) in (f 1 (), f 2 true)", "((int) ref -> (unit * bool))")
}

// TestConstraintsAfterALet: the type of a binding changes with the variables
// that are not generic.
func TestConstraintsAfterALet(t *testing.T) {
	checkTyped(t, "fun x -> let y = x in let u = x + 1 in y", "(int -> int)")
	checkTyped(t, "fun x -> let f = fun y -> (x, y) in let u = x + 1 in (f 1, f true)", "(int -> ((int * int) * (int * bool)))")
	checkTyped(t, "fun x -> let f = fun y -> (x, y) in (f 1, (x + 1, f true))", "(int -> ((int * int) * (int * (int * bool))))")
	checkTyped(t, "fun x -> let rec f y = (x, y) in (f 1, (x + 1, f true))", "(int -> ((int * int) * (int * (int * bool))))")
	checkTyped(t, "fun x -> let f = fun y -> x in let g = fun z -> (x :: z) in (f, (g ([] :: []), f))",
		"(('a) list -> (('b -> ('a) list) * ((('a) list) list * ('c -> ('a) list))))")
	checkFault(t, "fun x -> let y = x in (x + 1, y @^ \"a\")", 24)
	checkFault(t, "fun x -> let f = fun y -> x in (x + 1, f 1 @^ \"a\")", 24)
	checkFault(t, "fun x -> let f = fun y -> (x, y) in (x + 1, match f 1 with (a, b) -> a @^ \"a\" end)", 24)
	checkFault(t, "fun x -> let y = x in (y + 1, x @^ \"a\")", 24)
	checkFault(t, "fun x -> fun z -> let y = (x, z) in (x := z; match y with (a, b) -> a @:= a end)", 25)
	checkFault(t, "let r = ref [] in let f = fun x -> (r, x) in (r := 1 :: []; match f 1 with (s, _) -> s @:= true :: [] end)", 24)
}
