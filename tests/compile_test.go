package tests

import (
	"testing"

	"loop.example/g00395/impl"
)

func TestCompileLeaves(t *testing.T) {
	checkCode(t, "1", "0 int 1")
	checkCode(t, "0", "0 int 0")
	checkCode(t, greatest, "0 int "+greatest)
	checkCode(t, `"a"`, `0 str "a"`)
	checkCode(t, `""`, `0 str ""`)
	checkCode(t, `"a b\n\"\\\xff\x00"`, `0 str "a b\n\"\\\xff\x00"`)
	checkCode(t, "()", "0 unit")
	checkCode(t, "print", "0 given print")
	checkCode(t, "say", "0 given say")
	checkCode(t, "read", "0 given read")
	checkCode(t, "size", "0 given size")
}

func TestCompileConstructors(t *testing.T) {
	for _, name := range []string{"A", "Abcdefghijkl", "true", "false", "[]"} {
		checkCode(t, name, "0 con 0 "+name)
	}
	checkCode(t, "A 1", "0 int 1; 1 con 1 A")
	checkCode(t, "A (B (C, 2))", "0 con 0 C; 1 int 2; 2 pair; 3 con 1 B; 4 con 1 A")
	checkCode(t, "1 :: []", "0 int 1; 1 con 0 []; 2 pair; 3 con 1 ::")
	checkCode(t, "1 :: 2 :: []", "0 int 1; 1 int 2; 2 con 0 []; 3 pair; 4 con 1 ::; 5 pair; 6 con 1 ::")
	checkCode(t, "(1 :: []) :: []", "0 int 1; 1 con 0 []; 2 pair; 3 con 1 ::; 4 con 0 []; 5 pair; 6 con 1 ::")
	checkCode(t, "type t = A | B of int; (A, B 3)", "0 con 0 A; 1 int 3; 2 con 1 B; 3 pair")
}

// TestCompileParts has the kinds that end with one instruction for the values
// of their children.
func TestCompileParts(t *testing.T) {
	checkCode(t, "print 1", "0 given print; 1 int 1; 2 call")
	checkCode(t, "1 2 3", "0 int 1; 1 int 2; 2 call; 3 int 3; 4 call")
	checkCode(t, "1 (2 3)", "0 int 1; 1 int 2; 2 int 3; 3 call; 4 call")
	checkCode(t, "(1, 2)", "0 int 1; 1 int 2; 2 pair")
	checkCode(t, "((1, 2), (3, 4))", "0 int 1; 1 int 2; 2 pair; 3 int 3; 4 int 4; 5 pair; 6 pair")
	checkCode(t, "1 := 2", "0 int 1; 1 int 2; 2 set")
	checkCode(t, "1 := 2 := 3", "0 int 1; 1 int 2; 2 int 3; 3 set; 4 set")
	checkCode(t, "ref 1", "0 int 1; 1 ref")
	checkCode(t, "!1", "0 int 1; 1 get")
	checkCode(t, "raise 1", "0 int 1; 1 raise")
	checkCode(t, "! ref raise 1", "0 int 1; 1 raise; 2 ref; 3 get")
	checkCode(t, "- 1", "0 int 0; 1 int 1; 2 prim -")
	for _, sign := range []string{"=", "<>", "<", "<=", "+", "-", "*", "/", "%", "^"} {
		checkCode(t, "1 "+sign+" 2", "0 int 1; 1 int 2; 2 prim "+sign)
		checkCode(t, "(1 "+sign+" 2) "+sign+" (3 "+sign+" 4)", "0 int 1; 1 int 2; 2 prim "+sign+"; 3 int 3; 4 int 4; 5 prim "+sign+"; 6 prim "+sign)
	}
	checkCode(t, "1 + 2 * 3", "0 int 1; 1 int 2; 2 int 3; 3 prim *; 4 prim +")
}

func TestCompileSeqAndLet(t *testing.T) {
	checkCode(t, "1; 2", "0 int 1; 1 pop; 2 int 2")
	checkCode(t, "1; 2; 3", "0 int 1; 1 pop; 2 int 2; 3 pop; 4 int 3")
	checkCode(t, "(1; 2); 3", "0 int 1; 1 pop; 2 int 2; 3 pop; 4 int 3")
	checkCode(t, "let x = 1 in x", "0 int 1; 1 bind; 2 var 0; 3 drop 1")
	checkCode(t, "let x = 1 in 2", "0 int 1; 1 bind; 2 int 2; 3 drop 1")
	checkCode(t, "let x = 1 in let y = 2 in (x, y)", "0 int 1; 1 bind; 2 int 2; 3 bind; 4 var 1; 5 var 0; 6 pair; 7 drop 1; 8 drop 1")
	checkCode(t, "let x = let y = 1 in y in (x, x)", "0 int 1; 1 bind; 2 var 0; 3 drop 1; 4 bind; 5 var 0; 6 var 0; 7 pair; 8 drop 1")
	checkCode(t, "let x = print in (x 1; x 2)", "0 given print; 1 bind; 2 var 0; 3 int 1; 4 call; 5 pop; 6 var 0; 7 int 2; 8 call; 9 drop 1")
}

func TestCompileFun(t *testing.T) {
	checkCode(t, "fun x -> x", "0 fun 2; 1 jump 4; 2 var 0; 3 ret")
	checkCode(t, "fun x -> 1", "0 fun 2; 1 jump 4; 2 int 1; 3 ret")
	checkCode(t, "fun x -> fun y -> x", "0 fun 2; 1 jump 7; 2 fun 4; 3 jump 6; 4 var 1; 5 ret; 6 ret")
	checkCode(t, "(fun f -> f 1) (fun x -> x)", "0 fun 2; 1 jump 6; 2 var 0; 3 int 1; 4 call; 5 ret; 6 fun 8; 7 jump 10; 8 var 0; 9 ret; 10 call")
	checkCode(t, "(1, fun x -> (x, 2))", "0 int 1; 1 fun 3; 2 jump 7; 3 var 0; 4 int 2; 5 pair; 6 ret; 7 pair")
	checkCode(t, "let f = fun x -> x in f 1", "0 fun 2; 1 jump 4; 2 var 0; 3 ret; 4 bind; 5 var 0; 6 int 1; 7 call; 8 drop 1")
	checkCode(t, "fun x -> let y = x in fun z -> (x, (y, z))", "0 fun 2; 1 jump 14; 2 var 0; 3 bind; 4 fun 6; 5 jump 12; 6 var 2; 7 var 1; 8 var 0; 9 pair; 10 pair; 11 ret; 12 drop 1; 13 ret")
}

func TestCompileRec(t *testing.T) {
	checkCode(t, "let rec f x = f x in f 1", "0 rec 2; 1 jump 6; 2 var 1; 3 var 0; 4 call; 5 ret; 6 var 0; 7 int 1; 8 call; 9 drop 1")
	checkCode(t, "let rec f x = 1 in 2", "0 rec 2; 1 jump 4; 2 int 1; 3 ret; 4 int 2; 5 drop 1")
	checkCode(t, "let rec f x = let rec g y = f (g (x + y)) in g in f",
		"0 rec 2; 1 jump 15; 2 rec 4; 3 jump 12; 4 var 3; 5 var 1; 6 var 2; 7 var 0; 8 prim +; 9 call; 10 call; 11 ret; 12 var 0; 13 drop 1; 14 ret; 15 var 0; 16 drop 1")
	checkCode(t, "let rec f x = 1 in let rec g y = f in (f, g)", "0 rec 2; 1 jump 4; 2 int 1; 3 ret; 4 rec 6; 5 jump 8; 6 var 2; 7 ret; 8 var 1; 9 var 0; 10 pair; 11 drop 1; 12 drop 1")
	checkCode(t, "let rec f x = fun y -> (f, (x, y)) in f", "0 rec 2; 1 jump 11; 2 fun 4; 3 jump 10; 4 var 2; 5 var 1; 6 var 0; 7 pair; 8 pair; 9 ret; 10 ret; 11 var 0; 12 drop 1")
	checkCode(t, "1; let rec f x = x in 2", "0 int 1; 1 pop; 2 rec 4; 3 jump 6; 4 var 0; 5 ret; 6 int 2; 7 drop 1")
}

func TestCompileIf(t *testing.T) {
	checkCode(t, "if 1 then 2 else 3", "0 int 1; 1 ifnot 4; 2 int 2; 3 jump 5; 4 int 3")
	checkCode(t, "if true then (1, 2) else print 3", "0 con 0 true; 1 ifnot 6; 2 int 1; 3 int 2; 4 pair; 5 jump 9; 6 given print; 7 int 3; 8 call")
	checkCode(t, "(1, if 2 then 3 else 4)", "0 int 1; 1 int 2; 2 ifnot 5; 3 int 3; 4 jump 6; 5 int 4; 6 pair")
	// An EIf in all three children of an EIf.
	checkCode(t, "if if A then B else C then if D then 1 else 2 else if E then 3 else 4",
		"0 con 0 A; 1 ifnot 4; 2 con 0 B; 3 jump 5; 4 con 0 C; 5 ifnot 12; 6 con 0 D; 7 ifnot 10; 8 int 1; 9 jump 11; 10 int 2; 11 jump 17; 12 con 0 E; 13 ifnot 16; 14 int 3; 15 jump 17; 16 int 4")
	checkCode(t, "if true then fun x -> x else let y = 1 in y", "0 con 0 true; 1 ifnot 7; 2 fun 4; 3 jump 6; 4 var 0; 5 ret; 6 jump 11; 7 int 1; 8 bind; 9 var 0; 10 drop 1")
}

func TestCompileTry(t *testing.T) {
	checkCode(t, "try 1 with x -> 2 end", "0 try 4; 1 int 1; 2 ok; 3 jump 6; 4 int 2; 5 drop 1")
	checkCode(t, "try raise 1 with e -> e end", "0 try 5; 1 int 1; 2 raise; 3 ok; 4 jump 7; 5 var 0; 6 drop 1")
	checkCode(t, "(1, try 2 with x -> (x, 3) end)", "0 int 1; 1 try 5; 2 int 2; 3 ok; 4 jump 9; 5 var 0; 6 int 3; 7 pair; 8 drop 1; 9 pair")
	// An ETry in both children of an ETry.
	checkCode(t, "try try 1 with a -> a end with b -> try b with c -> (c, b) end end",
		"0 try 9; 1 try 5; 2 int 1; 3 ok; 4 jump 7; 5 var 0; 6 drop 1; 7 ok; 8 jump 18; 9 try 13; 10 var 0; 11 ok; 12 jump 17; 13 var 0; 14 var 1; 15 pair; 16 drop 1; 17 drop 1")
	checkCode(t, "fun x -> try x with y -> x end", "0 fun 2; 1 jump 9; 2 try 6; 3 var 0; 4 ok; 5 jump 8; 6 var 1; 7 drop 1; 8 ret")
}

func TestCompileMatch(t *testing.T) {
	checkCode(t, "match 1 with _ -> 2 end", "0 int 1; 1 arm 0 5; 2 int 2; 3 drop 0; 4 jump 6; 5 noarm")
	checkCode(t, "match 1 with x -> x end", "0 int 1; 1 arm 0 5; 2 var 0; 3 drop 1; 4 jump 6; 5 noarm")
	checkCode(t, "match (1, 2) with (x, y) -> x + y | _ -> 3 | z -> z end",
		"0 int 1; 1 int 2; 2 pair; 3 arm 0 9; 4 var 1; 5 var 0; 6 prim +; 7 drop 2; 8 jump 18; 9 arm 1 13; 10 int 3; 11 drop 0; 12 jump 18; 13 arm 2 17; 14 var 0; 15 drop 1; 16 jump 18; 17 noarm")
	checkCode(t, "(1, match 2 with 3 -> 4 end)", "0 int 1; 1 int 2; 2 arm 0 6; 3 int 4; 4 drop 0; 5 jump 7; 6 noarm; 7 pair")
	// An EMatch in an arm of an EMatch, and in its first child.
	checkCode(t, "match A with (a, b) -> match a with c :: d -> (b, d) end | e -> e end",
		"0 con 0 A; 1 arm 0 12; 2 var 1; 3 arm 1 9; 4 var 2; 5 var 0; 6 pair; 7 drop 2; 8 jump 10; 9 noarm; 10 drop 2; 11 jump 17; 12 arm 2 16; 13 var 0; 14 drop 1; 15 jump 17; 16 noarm")
	checkCode(t, "match match 1 with a -> a end with b -> b | _ -> 2 end",
		"0 int 1; 1 arm 0 5; 2 var 0; 3 drop 1; 4 jump 6; 5 noarm; 6 arm 1 10; 7 var 0; 8 drop 1; 9 jump 15; 10 arm 2 14; 11 int 2; 12 drop 0; 13 jump 15; 14 noarm")
	checkCode(t, "match 1 with x -> fun y -> (x, y) end", "0 int 1; 1 arm 0 10; 2 fun 4; 3 jump 8; 4 var 1; 5 var 0; 6 pair; 7 ret; 8 drop 1; 9 jump 11; 10 noarm")
}

// TestCompileKindsInOneAnother has jumps of one kind across those of another.
func TestCompileKindsInOneAnother(t *testing.T) {
	checkCode(t, "try if true then raise 1 else 2 with e -> if e < 3 then 4 else e end",
		"0 try 9; 1 con 0 true; 2 ifnot 6; 3 int 1; 4 raise; 5 jump 7; 6 int 2; 7 ok; 8 jump 17; 9 var 0; 10 int 3; 11 prim <; 12 ifnot 15; 13 int 4; 14 jump 16; 15 var 0; 16 drop 1")
	checkCode(t, "match ref 1 with r -> (r := 2; !r) end", "0 int 1; 1 ref; 2 arm 0 11; 3 var 0; 4 int 2; 5 set; 6 pop; 7 var 0; 8 get; 9 drop 1; 10 jump 12; 11 noarm")
	checkCode(t, "let rec f l = match l with [] -> 0 | x :: r -> try x + f r with e -> e end end in f (1 :: [])",
		"0 rec 2; 1 jump 22; 2 var 0; 3 arm 0 7; 4 int 0; 5 drop 0; 6 jump 21; 7 arm 1 20; 8 try 16; 9 var 1; 10 var 3; 11 var 0; 12 call; 13 prim +; 14 ok; 15 jump 18; 16 var 0; 17 drop 1; 18 drop 2; 19 jump 21; 20 noarm; 21 ret; 22 var 0; 23 int 1; 24 con 0 []; 25 pair; 26 con 1 ::; 27 call; 28 drop 1")
	checkCode(t, "fun x -> if x then match x with y -> y end else try x with z -> z end",
		"0 fun 2; 1 jump 18; 2 var 0; 3 ifnot 11; 4 var 0; 5 arm 0 9; 6 var 0; 7 drop 1; 8 jump 10; 9 noarm; 10 jump 17; 11 try 15; 12 var 0; 13 ok; 14 jump 17; 15 var 0; 16 drop 1; 17 ret")
}

// checkPatsOf checks the patterns of the code of a program.
func checkPatsOf(t *testing.T, text string, want ...string) {
	t.Helper()
	c, ok := compiled(t, parsed(t, text))
	if !ok || len(c.Pats) != len(want) {
		t.Errorf("%s is compiled to %s", text, codeText(c))
		return
	}
	arms := 0
	for _, i := range c.Ins {
		if i.Op != impl.OpArm {
			continue
		}
		if i.A != arms || impl.PrintPat(c.Pats[i.A]) != want[arms] {
			t.Errorf("%s: the arm %d has the pattern %d of %s, not %s", text, arms, i.A, patTexts(c.Pats), want[arms])
		}
		arms++
	}
	if arms != len(want) {
		t.Errorf("%s: there are %d arms", text, arms)
	}
}

// TestCompilePats: the patterns are in the order of their OpArms.
func TestCompilePats(t *testing.T) {
	checkPatsOf(t, "1")
	checkPatsOf(t, "match 1 with 2 -> 3 end", "2")
	checkPatsOf(t, "match 1 with A (x, -2) -> x | x :: _ -> x | () -> 1 | [] -> 2 | _ -> 3 end", "(A (x, -2))", "(x :: _)", "()", "[]", "_")
	checkPatsOf(t, "match 1 with 2 -> 3 | 2 -> 4 end", "2", "2")
	// In a first child, the inner patterns come first.
	checkPatsOf(t, "match match 1 with 2 -> 3 | 4 -> 5 end with 6 -> 7 | 8 -> 9 end", "2", "4", "6", "8")
	// In an arm, they come between that of the arm and that of the next one.
	checkPatsOf(t, "match 1 with 2 -> match 1 with 3 -> 1 | 4 -> 1 end | 5 -> match 1 with 6 -> 1 end | 7 -> 1 end", "2", "3", "4", "5", "6", "7")
	checkPatsOf(t, "match match 1 with 1 -> match 1 with 2 -> 1 end | 3 -> 1 end with 4 -> match match 1 with 5 -> 1 end with 6 -> 1 end | 7 -> 1 end", "1", "2", "3", "4", "5", "6", "7")
	checkPatsOf(t, "(match 1 with 1 -> 1 end, (fun x -> match x with 2 -> 1 end, try match 1 with 3 -> 1 end with e -> match 1 with 4 -> 1 end end))", "1", "2", "3", "4")
	checkPatsOf(t, "if match 1 with 1 -> 1 end then match 1 with 2 -> 1 end else match 1 with 3 -> 1 end", "1", "2", "3")
	checkPatsOf(t, "let rec f x = match x with 1 -> 1 end in let y = match 1 with 2 -> 1 end in match 1 with 3 -> 1 end", "1", "2", "3")
}

// TestCompileOnlyNodes: neither the offsets nor the types of a program matter.
func TestCompileOnlyNodes(t *testing.T) {
	for _, text := range []string{everyForm, everyRun, everyFold} {
		p := parsed(t, text)
		want, ok := compiled(t, p)
		if !ok {
			t.Fatalf("%s is not compiled", brief(text))
		}
		q := impl.Program{Nodes: moved(cloned(p), func(at int) int { return impl.MaxInt - at }).Nodes}
		if got, ok := compiled(t, q); !ok || !sameCode(got, want) {
			t.Errorf("with other offsets and no types, the code is %s", codeText(got))
		}
	}
}

// TestCompileWithoutTypes: Infer may refuse the program.
func TestCompileWithoutTypes(t *testing.T) {
	for _, e := range [][2]string{
		{"type t = A; type t = B; 1 2", "0 int 1; 1 int 2; 2 call"}, {"type int = A of u; ()", "0 unit"}, {"Q 1", "0 int 1; 1 con 1 Q"}, {"fun x -> x x", "0 fun 2; 1 jump 6; 2 var 0; 3 var 0; 4 call; 5 ret"},
		{"1 + ()", "0 int 1; 1 unit; 2 prim +"}, {"if 1 then 2 else ()", "0 int 1; 1 ifnot 4; 2 int 2; 3 jump 5; 4 unit"}, {`"a" := 1; 2`, `0 str "a"; 1 int 1; 2 set; 3 pop; 4 int 2`}, {"raise []", "0 con 0 []; 1 raise"},
		{"match 1 with () -> 2 end", "0 int 1; 1 arm 0 5; 2 int 2; 3 drop 0; 4 jump 6; 5 noarm"},
	} {
		if _, code, _ := impl.Infer(parsed(t, e[0])); code == 0 {
			t.Errorf("%s has a type", e[0])
		}
		checkCode(t, e[0], e[1])
	}
}
