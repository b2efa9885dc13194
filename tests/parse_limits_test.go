package tests

import (
	"strings"
	"testing"

	"loop.example/g00395/impl"
)

// layer is a text around an expr, pat or ty.
type layer struct{ before, after string }

// around puts n layers around a text.
func (l layer) around(n int, text string) string {
	return strings.Repeat(l.before, n) + text + strings.Repeat(l.after, n)
}

// checkDepth checks that something may stand in MaxDepth layers, and what is
// reported if it stands in one more. ctx is the text around all of it.
func checkDepth(t *testing.T, l layer, ctx layer, inner string) {
	t.Helper()
	const most = impl.MaxDepth
	parsed(t, ctx.before+l.around(most, inner)+ctx.after)
	deep := ctx.before + strings.Repeat(l.before, most+1)
	at := len(deep)
	checkParseError(t, ctx.before+l.around(most+1, inner)+ctx.after, 9, at)
	checkParseError(t, deep+inner, 9, at)
	checkParseError(t, deep+inner+" ) 1", 9, at)
	checkParseError(t, deep+inner+" "+l.around(3, inner), 9, at)
	checkParseError(t, deep+" "+inner+ctx.after, 9, at+1)
	checkParseError(t, deep, 7, at)
	checkParseError(t, deep+" end", 7, at+1)
	checkParseError(t, deep+"| 1", 7, at)
	shallow := ctx.before + strings.Repeat(l.before, most)
	checkParseError(t, shallow, 7, len(shallow))
	checkParseError(t, shallow+"end", 7, len(shallow))
}

// checkSecond is checkDepth for layers that have a part before the inner
// text, which is nested as deeply. first is its offset in the layer.
func checkSecond(t *testing.T, l layer, ctx layer, inner string, first int) {
	t.Helper()
	const most = impl.MaxDepth
	parsed(t, ctx.before+l.around(most, inner)+ctx.after)
	at := len(ctx.before) + most*len(l.before) + first
	checkParseError(t, ctx.before+l.around(most+1, inner)+ctx.after, 9, at)
	deep := ctx.before + strings.Repeat(l.before, most+1)
	checkParseError(t, deep, 9, at)
	checkParseError(t, deep[:at], 7, at)
	checkParseError(t, deep[:at]+"end", 7, at)
}

func TestDepthOfExprs(t *testing.T) {
	for _, l := range []layer{
		{"(", ")"}, {"(", ", 1)"}, {"fun x -> ", ""}, {"let x = ", " in 1"}, {"let rec f x = ", " in 1"}, {"if ", " then 1 else 2"},
		{"match ", " with x -> 1 end"}, {"try ", " with x -> 1 end"}, {"1; ", ""}, {"- ! (", ")"}, {"ref raise (", ")"}, {"1 :: (", ")"}, {"f 1 (", ")"}, {"x := (", ")"},
	} {
		checkDepth(t, l, layer{}, "1")
		checkDepth(t, l, layer{"type t = A; ", " (**)"}, "x")
	}
	checkSecond(t, layer{"(1,", ")"}, layer{}, "2", 1)
	checkSecond(t, layer{"let x = 1 in ", ""}, layer{}, "2", 8)
	checkSecond(t, layer{"let rec f x = 1 in ", ""}, layer{}, "2", 14)
	checkSecond(t, layer{"if 1 then ", " else 2"}, layer{}, "2", 3)
	checkSecond(t, layer{"if 1 then 2 else ", ""}, layer{}, "2", 3)
	checkSecond(t, layer{"match 1 with x -> ", " end"}, layer{}, "2", 6)
	checkSecond(t, layer{"match 1 with x->2|y->", " end"}, layer{}, "2", 6)
	checkSecond(t, layer{"try 1 with x -> ", " end"}, layer{}, "2", 4)
	for _, inner := range []string{"7", `"a"`, "x", "A", "true", "false", "()", "[]", "! x", "- x", "ref x", "raise x"} {
		checkDepth(t, layer{"(", ")"}, layer{}, inner)
	}
	for _, inner := range []string{"fun x -> 1", "let x = 1 in 2", "if 1 then 2 else 3", "match 1 with x -> 2 end", "try 1 with x -> 2 end", "(1)", "(1, 2)", "1; 2"} {
		deep := strings.Repeat("(", impl.MaxDepth+1)
		checkParseError(t, deep+inner, 9, len(deep))
		checkParseError(t, deep[1:]+inner, 9, len(deep)-1+innerExpr(inner))
	}
}

// TestDepthAfterAForm: what has been read is not counted any more.
func TestDepthAfterAForm(t *testing.T) {
	most := layer{"(", ")"}.around(impl.MaxDepth-1, "1")
	for _, text := range []string{
		most + " + " + most + " * " + most, "(" + most[1:len(most)-1] + ", " + most[1:] + " :: " + most, "if " + most + " then " + most + " else " + most,
		"let x = " + most + " in " + most, "try " + most + " with x -> " + most + " end", "match " + most + " with x -> " + most + " | y -> " + most + " end",
		most + "; " + most,
	} {
		parsed(t, text)
	}
	pat := layer{"(", ")"}.around(impl.MaxDepth-1, "1")
	parsed(t, "match 1 with ("+pat+", "+pat+") -> 1 | "+pat+" :: "+pat+" -> 1 end")
	ty := layer{"(", ")"}.around(impl.MaxDepth-1, "int")
	parsed(t, "type t = A of ("+ty+", "+ty+") t * "+ty+" | B of "+ty+" -> "+ty+"; type u = C of ("+ty+"); 1")
}

// innerExpr is the offset of the first expr in the form.
func innerExpr(form string) int {
	switch strings.Fields(form)[0] {
	case "fun":
		return len("fun x -> ")
	case "let":
		return len("let x = ")
	case "if":
		return len("if ")
	case "match":
		return len("match ")
	case "try":
		return len("try ")
	case "1;":
		return len("1; ")
	}
	return len("(")
}

func TestDepthOfPats(t *testing.T) {
	ctx := layer{"match 1 with ", " -> 1 end"}
	checkDepth(t, layer{"(", ")"}, ctx, "x")
	checkDepth(t, layer{"(", ", _)"}, ctx, "1")
	checkSecond(t, layer{"(1, ", ")"}, ctx, "x", 1)
	checkDepth(t, layer{"_ :: ", ""}, ctx, "[]")
	checkDepth(t, layer{"A (", ")"}, ctx, "true")
	checkDepth(t, layer{"A B (", ")"}, ctx, "C x")
	checkDepth(t, layer{"_ :: ", ""}, layer{"match 1 with x -> 2 | ", " -> 1 end"}, "x")
	for _, inner := range []string{"_", "x", "7", "- 7", "false", "()", "[]", "C"} {
		checkDepth(t, layer{"(", ")"}, ctx, inner)
	}
	parsed(t, ctx.before+layer{"(", ")"}.around(impl.MaxDepth, "()")+ctx.after)
	parsed(t, ctx.before+strings.Repeat("A ", 400)+"x"+ctx.after)
	parsed(t, strings.Repeat("(", impl.MaxDepth-1)+ctx.before+strings.Repeat("_ :: ", impl.MaxDepth)+"x"+ctx.after+strings.Repeat(")", impl.MaxDepth-1))
}

func TestDepthOfTys(t *testing.T) {
	ctx := layer{"type 'a t = A of ", "; 1"}
	checkDepth(t, layer{"(", ")"}, ctx, "'a")
	checkDepth(t, layer{"(", ") list"}, ctx, "int")
	checkSecond(t, layer{"(int, ", ") t"}, ctx, "t", 1)
	checkDepth(t, layer{"(", ", 'a) t"}, ctx, "'a")
	checkDepth(t, layer{"int -> ", ""}, ctx, "'a")
	checkDepth(t, layer{"int * (", ")"}, ctx, "int * int")
	checkDepth(t, layer{"int * int -> ", ""}, layer{"type t = A of int -> int | B of ", " | C; 1"}, "int list")
	parsed(t, ctx.before+strings.Repeat("int * ", 500)+"int"+ctx.after)
	parsed(t, ctx.before+"int"+strings.Repeat(" list", 500)+ctx.after)
}

// TestFormsWithoutDepth: only exprs count, not the parts of the grammar below
// them.
func TestFormsWithoutDepth(t *testing.T) {
	many := func(before string, n int) string { return strings.Repeat(before, n) + "x" }
	for _, before := range []string{"! ", "ref ", "raise ", "!"} {
		parsed(t, many(before, impl.MaxNodes-1))
	}
	for _, before := range []string{"- ", "y + ", "y * ", "y ^ ", "y := ", "f "} {
		parsed(t, many(before, impl.MaxNodes/2-1))
	}
	parsed(t, many("y :: ", impl.MaxNodes/3-1))
	parsed(t, layer{"(", ")"}.around(impl.MaxDepth, many("! ", 400)))
	checkParseError(t, many("! ", 150)+strings.Repeat(" (y", 100)+" (z", 9, 2*150+1+3*100+2)
}

// TestTwiceAndTooDeep: for one token the smallest code is reported.
func TestTwiceAndTooDeep(t *testing.T) {
	const before = "match 1 with "
	chain := func(first string, n int) string { return before + first + " :: " + strings.Repeat("_ :: ", n-1) }
	most := chain("x", impl.MaxDepth)
	parsed(t, most+"y -> 1 end")
	checkParseError(t, most+"x -> 1 end", 8, len(most))
	deep := chain("x", impl.MaxDepth+1)
	checkParseError(t, deep+"x -> 1 end", 8, len(deep))
	checkParseError(t, deep+"y -> 1 end", 9, len(deep))
	checkParseError(t, deep+"(x) -> 1 end", 9, len(deep))
	checkParseError(t, deep+"A x -> 1 end", 9, len(deep))
	checkParseError(t, deep+"fun -> 1 end", 7, len(deep))
	checkParseError(t, chain("(x, x)", impl.MaxDepth+1)+"y -> 1 end", 8, len(before)+4)
	checkParseError(t, most+"(x) -> 1 end", 8, len(most)+1)
	checkParseError(t, most+"(y) -> 1 end", 9, len(most)+1)
}

// TestFirstTokenOfParseErrors: among 7 to 9, the error whose token comes first
// is reported.
func TestFirstTokenOfParseErrors(t *testing.T) {
	open := strings.Repeat("(", impl.MaxDepth+1)
	checkParseError(t, "match 1 with (x, x) ) -> 1 end", 8, 17)
	checkParseError(t, "match 1 with (x, x", 8, 17)
	checkParseError(t, "match 1 with (x, x) -> "+open+"1", 8, 17)
	checkParseError(t, "match 1 with ) (x, x) -> 1 end", 7, 13)
	checkParseError(t, "match 1 with (x; x) -> 1 end", 7, 15)
	checkParseError(t, "match 1 with x x -> 1 end", 7, 15)
	checkParseError(t, "match 1 with A x x -> 1 end", 7, 17)
	checkParseError(t, "match ) with (x, x) -> 1 end", 7, 6)
	checkParseError(t, "match "+open+"1 with (x, x) -> 1 end", 9, 6+impl.MaxDepth)
	checkParseError(t, open+"1 )) + * 2", 9, len(open))
	checkParseError(t, "1 + * "+open+"1", 7, 4)
	checkParseError(t, open+"+ 1", 7, len(open))
	checkParseError(t, open+")", 7, len(open)+1)
	checkParseError(t, open+"end", 7, len(open))
	checkParseError(t, open[1:]+"1 2 fun", 7, len(open)+3)
	checkParseError(t, "type t = A of "+open+"int; match 1 with (x, x) -> 1 end", 9, 14+len(open))
	checkParseError(t, "type t = A of "+open+"'a; 1", 7, 14+len(open))
	checkParseError(t, "type 'a t = A of "+open+"'a; 1", 9, 17+len(open))
	checkParseError(t, "type 'a t = A of "+open+"'b; 1", 7, 17+len(open))
	checkParseError(t, "type t = A of 'a -> "+open+"int; 1", 7, 14)
	checkParseError(t, "type t = A of int; "+open+"1", 9, 19+len(open))
	checkParseError(t, open, 7, len(open))
}

func TestMostNodes(t *testing.T) {
	p := parsed(t, strings.Repeat("!", impl.MaxNodes-1)+"x")
	if len(p.Nodes) != impl.MaxNodes {
		t.Errorf("%d nodes", len(p.Nodes))
	}
	checkParseError(t, strings.Repeat("!", impl.MaxNodes)+"x", 10, 0)
	checkParseError(t, " (**) "+strings.Repeat("!", impl.MaxNodes)+"x", 10, 0)
	checkParseError(t, strings.Repeat("-", impl.MaxNodes/2)+"x", 10, 0)
	checkParseError(t, strings.Repeat("-", impl.MaxText-1)+"x", 10, 0)
	checkParseError(t, strings.Repeat("!", impl.MaxText-1)+"x", 10, 0)
	checkParseError(t, strings.Repeat("x ", impl.MaxText/2), 10, 0)
	checkParseError(t, strings.Repeat("1*", impl.MaxText/2-1)+"1", 10, 0)
	checkParseError(t, strings.Repeat("!", impl.MaxText), 7, impl.MaxText)
	parsed(t, strings.Repeat("f ", impl.MaxNodes/2-1)+"x")
	parsed(t, "ref "+strings.Repeat("f ", impl.MaxNodes/2-1)+"x")
	checkParseError(t, strings.Repeat("f ", impl.MaxNodes/2)+"x", 10, 0)
	// Types and patterns have no nodes of a program.
	pat := "match 1 with " + strings.Repeat("A ", 300) + "_ -> "
	parsed(t, "type t = A of int * int; "+pat+strings.Repeat("!", impl.MaxNodes-3)+"x end")
	checkParseError(t, "type t = A of int * int; "+pat+strings.Repeat("!", impl.MaxNodes-2)+"x end", 10, 0)
}

func TestMostTypesAndConstructors(t *testing.T) {
	decl := "type t = A of int;"
	if p := parsed(t, strings.Repeat(decl, impl.MaxTypes)+"1"); len(p.Types) != impl.MaxTypes {
		t.Errorf("%d types", len(p.Types))
	}
	checkParseError(t, strings.Repeat(decl, impl.MaxTypes+1)+"1", 10, 0)
	checkParseError(t, strings.Repeat(decl, 200)+"1", 10, 0)
	most := "type t = A" + strings.Repeat(" | B of int", impl.MaxCons-1)
	if p := parsed(t, most+"; 1"); len(p.Types[0].Cons) != impl.MaxCons {
		t.Errorf("%d constructors", len(p.Types[0].Cons))
	}
	parsed(t, strings.Repeat(most+"; ", impl.MaxTypes)+"1")
	checkParseError(t, most+" | C; 1", 10, 0)
	checkParseError(t, strings.Repeat(most+"; ", impl.MaxTypes-1)+most+" | C of int; 1", 10, 0)
	checkParseError(t, most+" | C; "+strings.Repeat(decl, 3)+"1", 10, 0)
	checkParseError(t, "type t = A"+strings.Repeat("|A", 1900)+"; 1", 10, 0)
}

// TestTooLargeComesLast: every other error is reported before code 10.
func TestTooLargeComesLast(t *testing.T) {
	for _, large := range []string{strings.Repeat("!", impl.MaxNodes), strings.Repeat("type t = A;", impl.MaxTypes+1), "type t = A" + strings.Repeat("|A", impl.MaxCons) + ";"} {
		at := len(large)
		checkParseError(t, large+"1", 10, 0)
		checkParseError(t, large, 7, at)
		checkParseError(t, large+"1)", 7, at+1)
		checkParseError(t, large+"(match 1 with (x, x) -> 1 end)", 8, at+18)
		checkParseError(t, large+strings.Repeat("(", impl.MaxDepth+1)+"1", 9, at+impl.MaxDepth+1)
		checkParseError(t, large+"1 ?", 2, at+2)
	}
}
