package tests

import (
	"slices"
	"strings"
	"testing"

	"loop.example/g00395/impl"
)

// sorts are expressions whose values are of all kinds.
var sorts = map[string][]string{
	"number":      {"0", "7", "(1 - 2)", "4611686018427387903"},
	"string":      {`""`, `"a"`, `"true"`, `"7"`},
	"unit":        {"()"},
	"bool":        {"true", "false", "(1 < 2)"},
	"constructor": {"[]", "A", "True", "(A 1)", "(True true)", "(A ())", "(1 :: [])"},
	"pair":        {"(1, 2)", "((), ())", "(true, true)", "(print, 1)"},
	"function":    {"(fun x -> x)", "(let rec f x = x in f)", "print", "say", "read", "size"},
	"reference":   {"(ref 7)", "(ref ())", "(ref true)", "(ref print)"},
}

// others are the values of all kinds but these, in a fixed order.
func others(kinds ...string) []string {
	list := []string{}
	for _, kind := range []string{"number", "string", "unit", "bool", "constructor", "pair", "function", "reference"} {
		if !slices.Contains(kinds, kind) {
			list = append(list, sorts[kind]...)
		}
	}
	return list
}

func TestBadNames(t *testing.T) {
	for _, text := range []string{
		"q", "prin", "print1", "let x = x in 1", "let x = 1 in y", "(let x = 1 in 2); x", "(let x = () in x); x", "((let x = 1 in x), x)", "(fun x -> y) 1", "((fun x -> x) 1, x)",
		"let rec f x = x in x", "let rec f x = y in f 1", "((let rec f x = x in f 1), f)", "((let rec f x = x in f 1), x)", "try x with x -> 1 end", "(try raise 1 with x -> x end, x)",
		"match x with x -> 1 end", "match (1, 2) with (x, 3) -> 0 | (3, y) -> 0 | _ -> x end", "match (1, 2) with (x, 3) -> 0 | (y, z) -> x end", "(match 1 with x -> x end, x)",
		"let f = fun y -> x in let x = 1 in f 2", "let f = fun x -> f x in f 1", "let f = fun y -> if y < 1 then 0 else f (y - 1) in f 1", "let x = 1 in let f = fun y -> z in let z = 2 in f x",
	} {
		checkEval(t, text, "bad")
	}
	checkEval(t, "let f = fun x -> if x < 1 then 0 else f (x - 1) in f 0", "done")
	checkEval(t, "let f = 1 in let f = fun x -> f in print (f 2)", "1|done")
}

func TestBadCalls(t *testing.T) {
	for _, text := range others("function") {
		checkEval(t, "("+text+") 1", "bad")
		checkEval(t, "("+text+") ()", "bad")
		checkEval(t, "let f = "+text+" in f "+told(1, "2"), "1|bad")
	}
	for name, right := range map[string][]string{"print": {"number"}, "say": {"string"}, "size": {"string"}, "read": {"unit"}} {
		for _, text := range others(right...) {
			checkEval(t, name+" "+text, "bad", 5)
			checkEval(t, "let f = "+name+" in let x = "+text+" in f x", "bad", 5)
		}
		for _, kind := range right {
			for _, text := range sorts[kind] {
				if got := evaluated(t, parsed(t, name+" "+text), []int{5}, 100); got.Kind != impl.OutDone {
					t.Errorf("%s %s: the outcome is %s", name, text, outcomeText(got))
				}
			}
		}
	}
	checkEval(t, "read 1", "bad")
	checkEval(t, "read read", "bad")
}

// TestBadOperands has operands of all kinds.
func TestBadOperands(t *testing.T) {
	all := others()
	for _, sign := range []string{"+", "-", "*", "/", "%", "=", "<>", "<", "<=", "^"} {
		right := "number"
		if sign == "^" {
			right = "string"
		}
		for _, a := range all {
			for _, b := range all {
				got := evaluated(t, parsed(t, a+" "+sign+" "+b), nil, 100)
				isRight := slices.Contains(sorts[right], a) && slices.Contains(sorts[right], b)
				if (got.Kind == impl.OutBad) == isRight {
					t.Errorf("%s %s %s: the outcome is %s", a, sign, b, outcomeText(got))
				}
			}
		}
	}
	for _, a := range others("number") {
		checkEval(t, "- "+a, "bad")
	}
	for _, text := range []string{`"a" = "a"`, "true = true", "() = ()", "[] <> []", "(1, 2) = (1, 2)", "ref 1 = ref 1", "print = print", "1 / true", "true / 0", `"a" % 0`, `1 ^ ""`, `"" ^ 1`} {
		checkEval(t, text, "bad")
	}
}

func TestBadFirstValues(t *testing.T) {
	for _, text := range others("bool") {
		checkEval(t, "if "+text+" then print 1 else print 2", "bad")
	}
	for _, text := range others("unit") {
		checkEval(t, text+"; print 1", "bad")
		checkEval(t, "(let x = "+text+" in x); print 1", "bad")
	}
	for _, text := range others("number") {
		checkEval(t, "raise "+text, "bad")
		checkEval(t, "try raise "+text+" with x -> print 1 end", "bad")
	}
	for _, text := range others("reference") {
		checkEval(t, "! "+text, "bad")
		checkEval(t, text+" := 1", "bad")
		checkEval(t, text+" := "+text, "bad")
	}
	for text, want := range map[string]string{"true": "1|done", "false": "2|done", "(1 < 2)": "1|done", "(2 < 1)": "2|done"} {
		checkEval(t, "if "+text+" then print 1 else print 2", want)
	}
}

// TestBadAfterTheChildren: what a node requires is looked at when the children
// that it needs for that have been evaluated.
func TestBadAfterTheChildren(t *testing.T) {
	for _, text := range []string{"1 (raise 5)", "() (raise 5)", "true + (raise 5)", "(1, 2) = raise 5", "1 ^ raise 5", `"a" / raise 5`, "1 := raise 5", "() := raise 5", "print (raise 5)", "1 (2 (raise 5))"} {
		checkEval(t, text, "raised 5")
	}
	for _, text := range []string{"1; raise 5", "true; raise 5", "if 1 then raise 5 else raise 5", "if () then raise 5 else raise 5", "(1 1) (raise 5)", "(1 + ()) + raise 5", "raise (raise ())", "(! 1) := raise 5"} {
		checkEval(t, text, "bad")
	}
	// The limit counts before all of this.
	for most, want := range []string{"steps", "steps", "steps", "bad"} {
		if got := briefOutcome(evaluated(t, parsed(t, "1 1"), nil, most)); got != want {
			t.Errorf("the outcome of 1 1 is %s with at most %d steps", got, most)
		}
	}
}

// TestBadNowhere: what is never evaluated cannot be bad.
func TestBadNowhere(t *testing.T) {
	for _, wrong := range []string{"q", "1 1", "print ()", "1 + true", "if 1 then 2 else 3", "1; 2", "raise ()", "! 1", "1 := 2", "print q"} {
		wrong = "(" + wrong + ")"
		checkEval(t, wrong, "bad")
		for _, form := range []string{
			"fun x -> W", "let f = fun x -> W in 1", "let rec f x = W in 1", "if true then 1 else W", "if false then W else 1", "match 1 with 2 -> W | 1 -> 3 end", "match 1 with 1 -> 3 | 1 -> W end",
			"match 1 with _ -> 3 | _ -> W end", "try 1 with x -> W end", "try (raise 1, W) with x -> x end", "try raise 1 + W with x -> x end", "try (raise 1) W with x -> x end",
			"(fun f -> 1) (fun x -> W)", "ref (fun x -> W)", "A (fun x -> W)", "try (let y = raise 1 in W) with x -> x end", "try (raise 1; W) with x -> x end", "try match 1 with 2 -> W end with x -> x end",
		} {
			checkEval(t, strings.ReplaceAll(form, "W", wrong), "done")
		}
	}
	// The program has no type, but evaluation does not look at types.
	checkEval(t, "(fun x -> x x) (fun x -> 1)", "done")
	checkEval(t, "if true then 1 else ()", "done")
	checkEval(t, "A (B 1) :: true", "done")
	checkEval(t, "let r = ref 1 in r := true; if !r then print 1 else print 2", "1|done")
	checkEval(t, "match Some 1 with None -> 0 | Some 2 -> () | true -> () | Some x -> print x end", "1|done")
	checkEval(t, "1 :: 2", "done")
}
