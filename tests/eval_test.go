package tests

import (
	"strings"
	"testing"

	"loop.example/g00395/impl"
)

// TestStepsOfLeaves: the value of a leaf takes one step.
func TestStepsOfLeaves(t *testing.T) {
	for _, text := range []string{"0", "4611686018427387903", `"a"`, `""`, "()", "true", "false", "[]", "A", "fun x -> x", "fun x -> q", "print", "say", "read", "size"} {
		checkSteps(t, text, 1, "done")
	}
	checkSteps(t, "q", 1, "bad")
}

// TestStepsOfKinds has every kind of node with children.
func TestStepsOfKinds(t *testing.T) {
	checkSteps(t, "A 1", 2, "done")
	checkSteps(t, "1 :: []", 4, "done")
	checkSteps(t, "1 :: 2 :: []", 7, "done")
	checkSteps(t, "(1, 2)", 3, "done")
	checkSteps(t, "ref 1", 2, "done")
	checkSteps(t, "! (ref 1)", 3, "done")
	checkSteps(t, "ref 1 := 2", 4, "done")
	checkSteps(t, "(); 1", 3, "done")
	checkSteps(t, "raise 1", 2, "raised 1")
	checkSteps(t, "- 1", 3, "done")
	checkSteps(t, `"a" ^ "b"`, 3, "done")
	for _, sign := range []string{"+", "-", "*", "/", "%", "=", "<>", "<", "<="} {
		checkSteps(t, "3 "+sign+" 2", 3, "done")
	}
	checkSteps(t, "let x = 1 in 2", 3, "done")
	checkSteps(t, "let x = 1 in x", 3, "done")
	checkSteps(t, "let rec f x = q in 2", 3, "done")
	checkSteps(t, "let rec f x = x in f", 3, "done")
	checkSteps(t, "let rec f x = x in f 1", 6, "done")
	checkSteps(t, "(fun x -> 2) 1", 4, "done")
	checkSteps(t, "(fun x -> x + x) 1", 6, "done")
	checkSteps(t, "if true then 1 else 2", 3, "done")
	checkSteps(t, "if true then 1 else 2 + 3", 3, "done")
	checkSteps(t, "if false then 1 else 2 + 3", 5, "done")
	checkSteps(t, "match 1 with _ -> 2 end", 3, "done")
	checkSteps(t, "match 1 with 0 -> 2 | 3 -> 4 | 1 -> 5 + 6 | _ -> 7 end", 5, "done")
	checkSteps(t, "match 1 with 0 -> 2 | 3 -> 4 end", 2, "raised -1")
	checkSteps(t, "try 1 with x -> 2 + 3 end", 2, "done")
	checkSteps(t, "try raise 1 with x -> 2 + 3 end", 6, "done")
	checkSteps(t, "try raise 1 with x -> x end", 4, "done")
	checkSteps(t, "print 1", 3, "1|done")
	checkSteps(t, `say "a"`, 3, "a|done")
	checkSteps(t, `size "a"`, 3, "done")
	checkSteps(t, "read ()", 3, "done", 5)
	checkSteps(t, "read ()", 3, "raised -3")
}

// TestStepsOfARec: the EFun of an ERec is a step of its own, directly after
// the ERec, and so is every evaluation of the body.
func TestStepsOfARec(t *testing.T) {
	p := parsed(t, "let rec f x = x in f 1")
	for most, kind := range []int{impl.OutSteps, impl.OutSteps, impl.OutSteps, impl.OutSteps, impl.OutSteps, impl.OutSteps, impl.OutDone, impl.OutDone} {
		o := evaluated(t, p, nil, most)
		if o.Kind != kind || o.Steps != min(most, 6) {
			t.Errorf("the outcome is %s with at most %d steps", outcomeText(o), most)
		}
	}
	checkSteps(t, "let rec f x = if x < 1 then 0 else f (x - 1) in f 0", 2+3+5, "done")
	checkSteps(t, "let rec f x = if x < 1 then 0 else f (x - 1) in f 1", 2+3+9+5, "done")
	checkSteps(t, "let rec f x = if x < 1 then 0 else f (x - 1) in f 100", 2+3+900+5, "done")
	checkSteps(t, "let rec f x = (print x; f) in f 2 3", 2+4+2*5+1, "2|3|done")
}

// told is an expression with the value of another one. It writes a number when
// it is evaluated.
func told(n int, text string) string { return "(print " + impl.NumText(n) + "; " + text + ")" }

// tellFunction is a function that writes a number when it is called.
const tellFunction = "(fun x -> (print 9; x))"

// TestOrderOfChildren lets every child write a number.
func TestOrderOfChildren(t *testing.T) {
	one, two := told(1, "1"), told(2, "2")
	for _, sign := range []string{"+", "-", "*", "/", "%", "=", "<>", "<", "<="} {
		checkEval(t, one+sign+two, "1|2|done")
		checkEval(t, one+sign+"("+two+" + "+told(3, "3")+")", "1|2|3|done")
		checkEval(t, "("+one+" + "+two+")"+sign+told(3, "3"), "1|2|3|done")
	}
	checkEval(t, "- "+one, "1|done")
	checkEval(t, told(1, `"a"`)+" ^ "+told(2, `"b"`), "1|2|done")
	checkEval(t, "("+one+", "+two+")", "1|2|done")
	checkEval(t, "("+one+", ("+two+", "+told(3, "3")+"))", "1|2|3|done")
	checkEval(t, one+" :: "+two+" :: "+told(3, "[]"), "1|2|3|done")
	checkEval(t, "A "+one, "1|done")
	checkEval(t, "ref "+one, "1|done")
	checkEval(t, "! "+told(1, "(ref 1)"), "1|done")
	checkEval(t, "raise "+one, "1|raised 1")
	checkEval(t, told(1, "(ref 0)")+" := "+two, "1|2|done")
	checkEval(t, told(1, "()")+"; "+told(2, "()")+"; "+told(3, "1"), "1|2|3|done")
	checkEval(t, "let x = "+one+" in "+two, "1|2|done")
	checkEval(t, "let rec f x = "+told(5, "x")+" in "+one, "1|done")
	checkEval(t, "let rec f x = "+told(5, "x")+" in f "+one, "1|5|done")
	checkEval(t, told(1, tellFunction)+" "+two, "1|2|9|done")
	checkEval(t, told(1, "(fun x -> "+told(5, "fun y -> "+told(6, "x"))+")")+" "+two+" "+told(3, "3"), "1|2|5|3|6|done")
	checkEval(t, "print "+one, "1|1|done")
	checkEval(t, "say "+told(1, `"a"`), "1|a|done")
	checkEval(t, "if "+told(1, "true")+" then "+two+" else "+told(3, "3"), "1|2|done")
	checkEval(t, "if "+told(1, "false")+" then "+two+" else "+told(3, "3"), "1|3|done")
	checkEval(t, "match "+one+" with 0 -> "+told(5, "0")+" | 1 -> "+two+" | _ -> "+told(6, "0")+" end", "1|2|done")
	checkEval(t, "try "+one+" with x -> "+two+" end", "1|done")
	checkEval(t, "try raise "+one+" with x -> "+two+" end", "1|2|done")
	checkEval(t, "fun x -> "+one, "done")
}

// TestFirstEndCounts: an exception, a bad node or the last step ends
// everything around it, and what comes later is not evaluated.
func TestFirstEndCounts(t *testing.T) {
	later := told(7, "1")
	for _, form := range []string{
		"! + LATER", "LATER2 + !", "!, LATER", "LATER2, !", "! :: LATER", "A !", "! LATER", "LATER2 !", "!; LATER", "let x = ! in LATER", "let rec f x = ! in f LATER2",
		"if ! then LATER else LATER", "match ! with _ -> LATER | _ -> LATER end", "raise !", "ref !", "! := LATER", "LATER2 := !", "print !", "say !", "read !", "size !",
		"(fun x -> LATER) !", "(fun x -> !) LATER2", "if true then ! else LATER", "if false then LATER else !", "match 1 with 2 -> LATER | 1 -> ! | _ -> LATER end",
		"(try () with x -> LATER end); !", "try raise 0 with x -> ! end", "(1, (2, (!, LATER)))", "let x = let y = ! in LATER in LATER",
	} {
		for _, e := range []struct{ text, want string }{{"(raise 5)", "raised 5"}, {"(1 / 0)", "raised -2"}, {"(match 1 with 2 -> 3 end)", "raised -1"}, {"(read ())", "raised -3"}, {"(1 1)", "bad"}, {"q", "bad"}} {
			text := "(" + strings.ReplaceAll(strings.ReplaceAll(form, "LATER2", told(2, "1")), "LATER", later)
			text = strings.Replace(text, "!", told(1, e.text), 1) + ")"
			want := "1|" + e.want
			if strings.Contains(form, "LATER2") {
				want = "2|" + want
			}
			checkEval(t, text, want)
			if e.want != "bad" {
				number, _, _ := strings.Cut(strings.TrimPrefix(e.want, "raised "), "|")
				checkEval(t, "try "+text+" with e -> print e end", strings.TrimSuffix(want, e.want)+number+"|done")
			} else {
				checkEval(t, "try "+text+" with e -> print e end", want)
			}
		}
	}
}

// TestOneEvaluation: a value is not evaluated again when it is used.
func TestOneEvaluation(t *testing.T) {
	checkEval(t, "let x = "+told(1, "2")+" in (x, (x, print x))", "1|2|done")
	checkEval(t, "(fun x -> print (x + x)) "+told(1, "2"), "1|4|done")
	checkEval(t, "match "+told(1, "(2, 3)")+" with (0, _) -> () | (1, y) -> () | (x, y) -> print (x * y) end", "1|6|done")
	checkEval(t, "let f = "+told(1, "fun x -> print x")+" in f 2; f 3", "1|2|3|done")
	checkEval(t, "let rec f x = "+told(1, "fun y -> print (x + y)")+" in let g = f 2 in g 3; g 4", "1|5|6|done")
	checkEval(t, "let x = print 1 in x; x", "1|done")
}

// TestEnds has all small kinds.
func TestEnds(t *testing.T) {
	for kind := -3; kind <= 9; kind++ {
		for _, o := range []impl.Outcome{{Kind: kind}, {Kind: kind, N: 3, Trace: []string{"a"}, Steps: 7}} {
			if impl.Ends(o) != (kind == impl.OutDone || kind == impl.OutRaised) {
				t.Errorf("Ends is %v for the kind %d", impl.Ends(o), kind)
			}
		}
	}
	if impl.OutDone != 1 || impl.OutRaised != 2 || impl.OutSteps != 3 || impl.OutBad != 4 {
		t.Error("the kinds have other numbers")
	}
	if impl.ErrMatch != -1 || impl.ErrDiv != -2 || impl.ErrRead != -3 || impl.ErrSize != -4 || impl.MaxSteps != 20000 || impl.MaxStr != 1000 {
		t.Error("the constants have other numbers")
	}
}

// TestFailedWithoutNumber: only an exception has a number.
func TestFailedWithoutNumber(t *testing.T) {
	for _, text := range []string{"7", "print 7", "1 7", "try raise 7 with x -> x end", "try raise 7 with x -> q end", "let rec f x = try raise 7 with y -> f x end in f 1"} {
		o := evaluated(t, parsed(t, text), nil, impl.MaxSteps)
		if o.N != 0 || o.Kind == impl.OutRaised {
			t.Errorf("%s: the outcome is %s", text, outcomeText(o))
		}
	}
	checkEval(t, "raise 0", "raised")
	checkEval(t, "raise (- 4611686018427387903 - 1)", "raised -4611686018427387904")
}
