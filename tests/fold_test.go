package tests

import (
	"strings"
	"testing"

	"loop.example/g00395/impl"
)

const greatest = "4611686018427387903"

func TestFoldNumbers(t *testing.T) {
	for _, e := range [][2]string{
		{"1 + 2", "3"}, {"0 + 0", "0"}, {"5 - 3", "2"}, {"5 - 5", "0"}, {"- 0", "0"}, {"6 * 7", "42"}, {"6 * 0", "0"}, {"7 / 2", "3"}, {"0 / 5", "0"}, {"2 / 7", "0"}, {"7 % 2", "1"}, {"6 % 2", "0"}, {"2 % 7", "2"},
		{"4611686018427387902 + 1", greatest}, {"0 + " + greatest, greatest}, {greatest + " - " + greatest, "0"}, {greatest + " * 1", greatest}, {greatest + " / 1", greatest}, {greatest + " % " + greatest, "0"},
		{"2305843009213693952 * 4", "0"}, {greatest + " * " + greatest, "1"}, {greatest + " * 3", "4611686018427387901"}, {"3037000500 * 3037000500", "145474192"},
		{"print (1 + 2 * 3)", "(print 7)"}, {"1 + 2 + 3 + 4", "10"}, {"5 - (2 + 1)", "2"}, {"(1 + 2) * (3 + 4)", "21"}, {"7 / (1 - 1 + 2)", "3"}, {"- - 5", "(0 - (0 - 5))"},
	} {
		checkFold(t, e[0], e[1])
	}
}

// TestFoldNoNumber: a negative number has no literal, and without a value
// there is nothing to fold.
func TestFoldNoNumber(t *testing.T) {
	for _, text := range []string{
		"3 - 5", "0 - 1", "- 5", "- " + greatest, greatest + " + 1", greatest + " + " + greatest, "2305843009213693952 + 2305843009213693952", "2305843009213693952 * 2", greatest + " * 2", "3000000000 * 3000000000",
		"7 / 0", "0 / 0", "7 % 0", "0 % 0", greatest + " / 0",
		"1 + (2 - 5)", "(2 - 5) + 4", "- - 5", "(3 - 5) * (3 - 5)", "(0 - 7) / 2", "(0 - 7) % 2", "7 / (0 - 1)", "(7 / 0) + 1", "1 + 7 % 0", "(3 - 5) = (3 - 5)", "1 < 7 / 0",
	} {
		checkNoFold(t, text)
	}
	checkFold(t, "(1 + 2) - (3 + 4)", "(3 - 7)")
	checkFold(t, "(1 + 2) / (3 - 3)", "(3 / 0)")
	checkFold(t, "(1 - 2) + (3 + 4)", "((1 - 2) + 7)")
}

func TestFoldComparisons(t *testing.T) {
	for _, e := range []struct{ a, b, holds string }{{"1", "1", "= <="}, {"1", "2", "<> < <="}, {"2", "1", "<>"}, {"0", greatest, "<> < <="}, {greatest, greatest, "= <="}, {greatest, "4611686018427387902", "<>"}} {
		for _, sign := range []string{"=", "<>", "<", "<="} {
			want := "false"
			for _, s := range strings.Fields(e.holds) {
				if s == sign {
					want = "true"
				}
			}
			checkFold(t, e.a+" "+sign+" "+e.b, want)
			checkFold(t, "print (if ("+e.a+" "+sign+" "+e.b+") then 1 else 0)", map[string]string{"true": "(print 1)", "false": "(print 0)"}[want])
		}
	}
	checkFold(t, "1 + 2 = 3", "true")
	checkFold(t, "1 + 1 < 4 / 2", "false")
}

func TestFoldTexts(t *testing.T) {
	checkFold(t, `"a" ^ "b"`, `"ab"`)
	checkFold(t, `"a" ^ "b" ^ "c"`, `"abc"`)
	checkFold(t, `"a" ^ ("b" ^ "c")`, `"abc"`)
	checkFold(t, `"" ^ ""`, `""`)
	checkFold(t, `"" ^ "a"`, `"a"`)
	checkFold(t, `"a\n\"" ^ "\\\xff\x00"`, `"a\n\"\\\xff\x00"`)
	checkFold(t, `say ("a" ^ "a")`, `(say "aa")`)
	checkFold(t, `"a" ^ x ^ "b"`, `(("a" ^ x) ^ "b")`)
	checkFold(t, `x ^ ("a" ^ "b")`, `(x ^ "ab")`)
}

// TestFoldTextsOfMaxStr has strings of MaxStr bytes together, and of one more.
func TestFoldTextsOfMaxStr(t *testing.T) {
	for _, count := range []int{0, 1, 499, 500, 999, 1000} {
		for total := max(count, impl.MaxStr-1); total <= impl.MaxStr+1; total++ {
			a, b := strings.Repeat("a", count), strings.Repeat("b", total-count)
			p := impl.Program{Nodes: node(impl.EPrim, "^", node(impl.EStr, a), node(impl.EStr, b)).nodes(nil)}
			want := p.Nodes
			if total <= 1000 {
				want = node(impl.EStr, a+b).nodes(nil)
			}
			q := folded(t, p)
			if got := shown(t, q); got != shown(t, impl.Program{Nodes: want}) {
				t.Errorf("%d and %d bytes are folded to %s", count, total-count, brief(got))
			}
			checkFoldRuns(t, p, q, nil, 10)
		}
	}
	// What counts are bytes, and every concatenation by itself.
	checkFold(t, `"`+strings.Repeat(`\xc3\xa9`, 250)+`" ^ "`+strings.Repeat("a", 500)+`"`, `"`+strings.Repeat(`\xc3\xa9`, 250)+strings.Repeat("a", 500)+`"`)
	checkNoFold(t, `"`+strings.Repeat(`\xc3\xa9`, 251)+`" ^ "`+strings.Repeat("a", 499)+`"`)
	long, most := strings.Repeat("a", 600), strings.Repeat("a", 1000)
	checkFold(t, `"`+long+`" ^ "`+long[:400]+`" ^ "b"`, `("`+most+`" ^ "b")`)
	checkFold(t, `"`+long+`" ^ ("`+long[:400]+`" ^ "b")`, `("`+long+`" ^ "`+long[:400]+`b")`)
	// An EStr may be longer than that.
	checkNoFold(t, `"`+most+`a" ^ ""`)
	checkNoFold(t, `"" ^ "`+most+`a"`)
	checkNoFold(t, `"`+most+`a"`)
	checkFold(t, `let x = "`+most+`a" in 1`, "1")
}

// TestFoldOtherOperands has operands that are no literals of the kind that the
// operator takes. There is no value for them, or it is not known.
func TestFoldOtherOperands(t *testing.T) {
	for _, sign := range []string{"+", "-", "*", "/", "%", "=", "<>", "<", "<="} {
		for _, e := range [][2]string{{"x", "1"}, {"1", "x"}, {"x", "x"}, {`"a"`, `"a"`}, {"1", `"a"`}, {`"a"`, "1"}, {"()", "()"}, {"true", "true"}, {"[]", "[]"}, {"1", "()"}, {"A", "1"}, {"(1, 2)", "(1, 2)"}, {"!x", "2"}, {"ref 1", "1"}, {"f 1", "2"}, {"(raise 1)", "2"}, {"(1; 2)", "3"}} {
			checkNoFold(t, e[0]+" "+sign+" "+e[1])
		}
	}
	for _, e := range [][2]string{{"1", "1"}, {"1", "2"}, {"1", `"a"`}, {`"a"`, "1"}, {`"a"`, "x"}, {"x", `"a"`}, {"()", `""`}, {`""`, "[]"}, {"A", "B"}, {"0", "0"}} {
		checkNoFold(t, e[0]+" ^ "+e[1])
	}
	checkFold(t, "(1 + 1) ^ (2 + 2)", "(2 ^ 4)")
	checkFold(t, "x + (1 + 2)", "(x + 3)")
	checkFold(t, "x + 1 + 2", "((x + 1) + 2)")
	checkFold(t, "(1 < 2) = (1 < 2)", "(true = true)")
}

func TestFoldIf(t *testing.T) {
	for _, e := range [][2]string{
		{"if true then 1 else 2", "1"}, {"if false then 1 else 2", "2"}, {"if true then x else q", "x"}, {"if false then q else x", "x"}, {"if 1 < 2 then x else y", "x"}, {"if 2 < 1 then x else y", "y"},
		{"if true then 1 + 2 else 3", "3"}, {"if false then 1 else 2 * 3", "6"}, {"if x then 1 + 1 else 2 + 2", "(if x then 2 else 4)"},
		// The first child is a literal only after it was folded.
		{"if 1 + 1 = 2 then 3 else 4", "3"}, {"if if true then false else true then 1 else 2", "2"}, {"if if false then false else true then 1 else 2", "1"}, {"if (); true then 1 else 2", "1"},
		{"if let x = 1 in false then 1 else 2", "2"}, {"if let x = 1 in 3 <= 3 then 1 else 2", "1"}, {"1 + (if 0 = 0 then 2 else 3)", "3"}, {"if true then if false then 1 else 2 else 3", "2"},
	} {
		checkFold(t, e[0], e[1])
	}
	for _, cond := range []string{"x", "1", "0", "()", "[]", "A", "True", `"true"`, `"false"`, "true :: []", "T true", "(true, false)", "not true", "! (ref true)", "(fun x -> x) true", "(raise 1)", "match 1 with _ -> true end", "let x = 1 in x = 1", "try true with x -> false end"} {
		checkNoFold(t, "if "+cond+" then 1 else 2")
	}
}

func TestFoldSeq(t *testing.T) {
	for _, e := range [][2]string{
		{"(); 1", "1"}, {"(); x", "x"}, {"(); (); x", "x"}, {"((); ()); x", "x"}, {"(); 1 + 2", "3"}, {"(); print 1; (); 2", "((print 1); 2)"}, {"(1; ()); 2", "((1; ()); 2)"}, {"(); ()", "()"},
		{"(if true then () else 1); 2", "2"}, {"(let x = 1 in ()); 2", "2"}, {"(if 1 < 2 then (); () else 1); 2", "2"}, {"x; (); 1", "(x; 1)"},
	} {
		checkFold(t, e[0], e[1])
	}
	for _, first := range []string{"1", "x", "[]", "true", "A", `""`, `"()"`, "(1, 2)", "print 1", "A ()", "ref ()", "! (ref ())", "(raise 1)", "(fun x -> ())", "(fun x -> ()) 1", "(match 1 with _ -> () end)", "x := 1", "(let x = () in x)", "(try () with e -> () end)"} {
		checkNoFold(t, first+"; 2")
	}
	checkNoFold(t, "x; ()")
	checkNoFold(t, "((), ())")
	checkNoFold(t, "(fun x -> x) ()")
}

// TestFoldLet has every kind of first child, with a name that is not used.
func TestFoldLet(t *testing.T) {
	for _, first := range []string{"3", greatest, `"a"`, `""`, "()", "true", "false", "[]", "A", "fun y -> z", "fun x -> x", "fun y -> x", "fun y -> raise 1", "1 + 2", "1 < 2", `"a" ^ "b"`, "((); 1)", "if true then fun y -> y else 1", "let y = 2 in 3"} {
		checkFold(t, "let x = "+first+" in 4", "4")
		checkFold(t, "let x = "+first+" in y", "y")
		checkFold(t, "f (let x = "+first+" in (4, y))", "(f (4, y))")
	}
	for _, first := range []string{
		"y", "x", "print", "A 1", "A ()", "1 :: []", "(1, 2)", "f 1", "(fun y -> y) 1", "let y = 1 in y", "let rec f y = y in 1", "if x then 1 else 2", "3 - 5", "7 / 0", "- 1", "1 + x", `"a" ^ x`, "1 ^ 2",
		"match 1 with _ -> 2 end", "(raise 1)", "try 1 with y -> 2 end", "ref 1", "!y", "y := 1", "(1; 2)", "(print 1; 2)",
	} {
		checkNoFold(t, "let x = "+first+" in 4")
		checkNoFold(t, "f (let x = "+first+" in (4, y))")
	}
	checkNoFold(t, "let rec f x = x in 4")
	checkNoFold(t, "(fun x -> 4) 1")
	checkNoFold(t, "match 1 with x -> 4 end")
	checkNoFold(t, "try 4 with x -> 1 end")
	checkFold(t, "let a = 1 in let b = a in 2", "(let a = 1 in (let b = a in 2))")
	checkFold(t, "let a = 1 in let b = () in let c = fun x -> x in 2", "2")
}

// TestFoldLetWithFreeName has a name that is free in the second child, or that
// is hidden there.
func TestFoldLetWithFreeName(t *testing.T) {
	for _, first := range []string{"3", `"a"`, "()", "true", "A", "fun y -> y"} {
		for _, body := range []string{
			"x", "x + 0", "(1, (2, x))", "fun y -> x", "let y = x in 1", "let x = x in x", "let x = x in 1", "let rec f y = x in 1", "let rec f y = 1 in x", "let rec f x = x in x", "match x with x -> x end",
			"match x with _ -> 1 end", "match y with x -> x | _ -> x end", "match y with _ -> x | x -> 1 end", "try x with x -> x end", "try 1 with y -> x end", "!x", "x := 1", "A x", "x :: []", "(fun x -> x) x",
		} {
			checkNoFold(t, "let x = "+first+" in "+body)
		}
		for _, e := range [][2]string{
			{"fun x -> x", "(fun x -> x)"}, {"let x = y in x", "(let x = y in x)"}, {"let rec x y = x in x", "(let rec x y = x in x)"}, {"let rec f x = x in 1", "(let rec f x = x in 1)"},
			{"match 2 with x -> x end", "(match 2 with x -> x end)"}, {"match 2 with (_, y :: x) -> x | x -> x end", "(match 2 with (_, (y :: x)) -> x | x -> x end)"}, {"try 2 with x -> x end", "(try 2 with x -> x end)"}, {`"x"`, `"x"`},
		} {
			checkFold(t, "let x = "+first+" in "+e[0], e[1])
		}
	}
	checkFold(t, "let x = 1 in let x = 2 in x", "(let x = 2 in x)")
	checkFold(t, "let x = 1 in (let x = 2 in x, 3)", "((let x = 2 in x), 3)")
	checkFold(t, "let print = 1 in 2", "2")
	checkNoFold(t, "let print = 1 in print")
	checkNoFold(t, "let print = 1 in print 2")
}

// TestFoldLetAfterItsBody: the name is free only before the second child was
// folded.
func TestFoldLetAfterItsBody(t *testing.T) {
	checkFold(t, "let x = 1 in if true then 2 else x", "2")
	checkFold(t, "let x = 1 in if false then x else 2", "2")
	checkFold(t, "let x = 1 in if 1 < 2 then y else f x", "y")
	checkFold(t, "let x = 3 in let y = fun z -> x in 4", "4")
	checkFold(t, "let a = 1 in let b = fun z -> a in let c = fun z -> b in fun d -> 5", "(fun d -> 5)")
	checkFold(t, "let x = fun y -> y in let f = fun y -> x y in print (1 + 1)", "(print 2)")
	checkFold(t, "let x = if true then 1 else x in 2", "2")
	checkFold(t, "let x = 1 in let y = if true then fun z -> x else x in 2", "2")
	checkFold(t, "let x = 1 in if y then 2 else x", "(let x = 1 in (if y then 2 else x))")
	checkFold(t, "let x = 1 in let y = (x, 2) in 3", "(let x = 1 in (let y = (x, 2) in 3))")
}

// TestFoldWithin folds in the children of every kind of node.
func TestFoldWithin(t *testing.T) {
	for _, e := range [][2]string{
		{"A (1 + 2)", "(A 3)"}, {"1 + 2 :: 3 + 4 :: []", "(3 :: (7 :: []))"}, {"fun x -> 1 + 2", "(fun x -> 3)"}, {"(1 + 2) (3 + 4)", "(3 7)"}, {"let x = 1 + 2 in x + (3 + 4)", "(let x = 3 in (x + 7))"},
		{"let rec f x = 1 + 2 in 3 + 4", "(let rec f x = 3 in 7)"}, {"if x = 1 + 2 then 3 + 4 else 5 + 6", "(if (x = 3) then 7 else 11)"}, {"(1 + 2, 3 + 4)", "(3, 7)"},
		{"match 1 + 2 with 3 -> 3 + 4 | _ -> 5 + 6 end", "(match 3 with 3 -> 7 | _ -> 11 end)"}, {"raise (1 + 2)", "(raise 3)"}, {"try 1 + 2 with x -> 3 + 4 end", "(try 3 with x -> 7 end)"}, {"ref (1 + 2)", "(ref 3)"}, {"! (1 + 2)", "(! 3)"},
		{"1 + 2 := 3 + 4", "(3 := 7)"}, {"x (1 + 2); 3 + 4", "((x 3); 7)"}, {"x + 1 * 2", "(x + 2)"}, {"fun x -> fun y -> if true then x else y", "(fun x -> (fun y -> x))"},
	} {
		checkFold(t, e[0], e[1])
	}
}

// TestFoldPlaces: a new node has the offset of the one that it replaces, a
// child keeps its own.
func TestFoldPlaces(t *testing.T) {
	checkFoldAt(t, "1 + 2", "int3@2")
	checkFoldAt(t, "1 +2*3", "int7@2")
	checkFoldAt(t, "1*2 + 3", "int5@4")
	checkFoldAt(t, "- 0", "int@0")
	checkFoldAt(t, "(* *) 1 <= 2", `con"true"@8`)
	checkFoldAt(t, "12 < 12", `con"false"@3`)
	checkFoldAt(t, `"ab" ^ "c" ^ "d"`, `str"abcd"@11`)
	checkFoldAt(t, "print (1 + 2 * 3)", `app@6(var"print"@0, int7@9)`)
	checkFoldAt(t, "if true then x else y", `var"x"@13`)
	checkFoldAt(t, "if 1 < 0 then x else f y", `app@23(var"f"@21, var"y"@23)`)
	checkFoldAt(t, "if true then 1 + 2 else 3", "int3@15")
	checkFoldAt(t, "(); (); ()", "unit@8")
	checkFoldAt(t, "let x = 1 in fun y -> 2", `fun"y"@13(int2@22)`)
	checkFoldAt(t, "let x = 1 in let y = 2 in (3, 4)", "pair@26(int3@27, int4@30)")
	checkFoldAt(t, "3 - 5", `prim"-"@2(int3@0, int5@4)`)
	checkFoldAt(t, "(1 + 2) - (3 + 4)", `prim"-"@8(int3@3, int7@13)`)
	checkFoldAt(t, "let rec f x = 1 + 2 in f (0 + 4)", `rec"f"@0(fun"x"@10(int3@16), app@25(var"f"@23, int4@28))`)
}

// TestFoldIndices: the children are found where they are after others have
// gone, and patterns stay with their arms.
func TestFoldIndices(t *testing.T) {
	checkFoldAt(t, "((1 + 2, 3 * 4), if true then (5, 6) else (7, 8))", "pair@0(pair@1(int3@4, int12@11), pair@30(int5@31, int6@34))")
	checkFoldAt(t, "(if false then (1, 2) else 3, (4, 5))", "pair@0(int3@27, pair@30(int4@31, int5@34))")
	checkFoldAt(t, "if x then (1; 2) else let y = 3 in 4; 5", `if@0(var"x"@3, seq@12(int1@11, int2@14), seq@36(int4@35, int5@38))`)
	checkFoldAt(t, "match 1 + 2 with A x -> ((); x) | (y, 5) -> if true then y else 6 | _ -> 7 end", `match@0[con"A"(var"x") | pair(var"y", int5) | wild](int3@8, var"x"@29, var"y"@57, int7@73)`)
	checkFoldAt(t, "match 0 with 1 -> if true then match x with y :: z -> z end else 2 | 3 -> 4 end", `match@0[int1 | int3](int@6, match@31[con"::"(pair(var"y", var"z"))](var"x"@37, var"z"@54), int4@74)`)
	checkFoldAt(t, "let x = 1 in match 0 with x -> x end", `match@13[var"x"](int@19, var"x"@31)`)
	checkFoldAt(t, "(let x = 1 in 2) :: (if true then [] else 3)", `con"::"@17(pair@17(int2@14, con"[]"@34))`)
	p := folded(t, parsed(t, "(1 + 2, (x, if false then 3 else (y, z)))"))
	for at, want := range [][]int{{1, 2}, {}, {3, 4}, {}, {5, 6}, {}, {}} {
		if at >= len(p.Nodes) || len(p.Nodes[at].Kids) != len(want) {
			t.Fatalf("the nodes are %v", p.Nodes)
		}
		for i, kid := range want {
			if p.Nodes[at].Kids[i] != kid {
				t.Errorf("node %d has the children %v, not %v", at, p.Nodes[at].Kids, want)
			}
		}
	}
}
