package tests

import (
	"math"
	"strings"
	"testing"

	"loop.example/g00395/impl"
)

// numeralText is an expression with this number as its value.
func numeralText(n int) string {
	switch {
	case n == impl.MinInt:
		return "(- 4611686018427387903 - 1)"
	case n < 0:
		return "(- " + impl.NumText(-n) + ")"
	}
	return impl.NumText(n)
}

var someNumbers = []int{0, 1, 2, 3, 7, -1, -2, -3, -7, 1 << 31, -1 << 31, 3037000500, impl.MaxInt, impl.MaxInt - 1, impl.MinInt, impl.MinInt + 1, impl.MaxInt / 2, impl.MinInt / 2}

// TestEvalArithmetic has the operators on pairs of numbers: as large as they
// may be, wrapped, and with 0 as a divisor.
func TestEvalArithmetic(t *testing.T) {
	for _, a := range someNumbers {
		for _, b := range someNumbers {
			check := func(sign string, want int, ok bool) {
				t.Helper()
				expected := "raised -2"
				if ok {
					expected = impl.NumText(want) + "|done"
				}
				checkEval(t, "print ("+numeralText(a)+" "+sign+" "+numeralText(b)+")", expected)
			}
			check("+", impl.AddW(a, b), true)
			check("-", impl.SubW(a, b), true)
			check("*", impl.MulW(a, b), true)
			quotient, ok := impl.DivW(a, b)
			check("/", quotient, ok)
			rest, ok := impl.RemW(a, b)
			check("%", rest, ok)
			for sign, holds := range map[string]bool{"=": a == b, "<>": a != b, "<": a < b, "<=": a <= b} {
				want := map[bool]string{true: "yes|done", false: "no|done"}[holds]
				checkEval(t, "say (if "+numeralText(a)+" "+sign+" "+numeralText(b)+` then "yes" else "no")`, want)
				checkEval(t, "match "+numeralText(a)+" "+sign+" "+numeralText(b)+` with true -> say "yes" | false -> say "no" end`, want)
			}
		}
	}
}

func TestEvalArithmeticEdges(t *testing.T) {
	least := numeralText(impl.MinInt)
	checkEval(t, "print "+least, "-4611686018427387904|done")
	checkEval(t, "print (4611686018427387903 + 1)", "-4611686018427387904|done")
	checkEval(t, "print ("+least+" - 1)", "4611686018427387903|done")
	checkEval(t, "print (- "+least+")", "-4611686018427387904|done")
	checkEval(t, "print (4611686018427387903 * 2)", "-2|done")
	checkEval(t, "print (4611686018427387903 * 4611686018427387903)", "1|done")
	checkEval(t, "print ("+least+" * "+least+")", "0|done")
	checkEval(t, "print ("+least+" / (- 1))", "-4611686018427387904|done")
	checkEval(t, "print ("+least+" % (- 1))", "0|done")
	checkEval(t, "print ((- 7) / 2); print ((- 7) % 2); print (7 / (- 2)); print (7 % (- 2))", "-3|-1|-3|1|done")
	checkEval(t, "1 / 0", "raised -2")
	checkEval(t, "1 % 0", "raised -2")
	checkEval(t, "0 / 0", "raised -2")
	checkEval(t, "try print (5 / (3 - 3)) with e -> print e end", "-2|done")
	checkEval(t, "try print (5 % (3 - 3)) with e -> print e end", "-2|done")
	// Wrapped values are numbers like any other.
	checkEval(t, "if 4611686018427387903 + 1 = "+least+" then print 1 else print 2", "1|done")
	checkEval(t, "if 4611686018427387903 + 1 < 0 then print 1 else print 2", "1|done")
}

func TestEvalRead(t *testing.T) {
	checkEval(t, "print (read ()); print (read ()); print (read ())", "5|-6|0|done", 5, -6, 0)
	checkEval(t, "print (read ()); print (read ()); print (read ())", "5|-6|raised -3", 5, -6)
	checkEval(t, "print (read ()); print (read ())", "5|-6|done", 5, -6, 7)
	checkEval(t, "read ()", "raised -3")
	checkEval(t, "read", "done")
	checkEval(t, "let rec f x = (print (read ()); f x) in try f 1 with e -> (print e; read ()) end", "1|2|3|-3|raised -3", 1, 2, 3)
	checkEval(t, "(try read 1 with e -> 2 end)", "bad", 5)
	checkEval(t, "print (read () - read ())", "3|done", 5, 2)
	checkEval(t, "let x = read () in let y = read () in print (x - y)", "3|done", 5, 2)
	checkEval(t, "match (read (), read ()) with (5, y) -> print y | _ -> print 0 end", "2|done", 5, 2)
	// Inputs that are no numbers of 63 bits are wrapped.
	for _, n := range []int{impl.MaxInt, impl.MinInt, impl.MaxInt + 1, impl.MinInt - 1, math.MaxInt, math.MinInt, math.MaxInt - 1, math.MinInt + 1, 1<<62 + 5, -1<<62 - 5} {
		checkEval(t, "print (read ())", impl.NumText(impl.Wrap(n))+"|done", n)
	}
	checkEval(t, "print (read ())", "-4611686018427387904|done", impl.MaxInt+1)
	checkEval(t, "print (read ())", "4611686018427387903|done", impl.MinInt-1)
	checkEval(t, "print (read ()); print (read ())", "-1|0|done", math.MaxInt, math.MinInt)
	checkEval(t, "if read () = 0 then print 1 else print 2", "1|done", math.MinInt)
	checkEval(t, "match read () with 0 -> print 1 | _ -> print 2 end", "1|done", math.MinInt)
	checkEval(t, "raise (read ())", "raised -1", math.MaxInt)
	many := make([]int, 3000)
	for i := range many {
		many[i] = i
	}
	checkEval(t, "let rec f x = if x < 1 then read () else (read (); f (x - 1)) in 1", "done", many...)
	checkEval(t, "let rec f x = let y = read () in if x < 1 then print y else f (x - 1) in f 1000", "1000|done", many...)
}

func TestEvalStrings(t *testing.T) {
	checkEval(t, `say "a"; say ""; say "b c"`, "a||b c|done")
	checkEval(t, `say ("ab" ^ "" ^ "cd" ^ "e"); say ("" ^ "")`, "abcde||done")
	checkEval(t, `print (size ""); print (size "abc"); print (size ("abc" ^ "de"))`, "0|3|5|done")
	// Bytes are counted, not letters, and are written as they are.
	checkEval(t, `let s = "\xc3\xa9\n\"\\" in (print (size s); say s)`, "5|é\n\"\\|done")
	checkEval(t, `say "\x00\xff"; print (size "\x00\xff")`, "\x00\xff|2|done")
	checkEval(t, `let s = "a" in let u = s ^ s in (say s; say u; say (u ^ s))`, "a|aa|aaa|done")
	checkEval(t, "match \"\" with x -> say x end", "|done")
}

// TestEvalLongStrings has concatenations of MaxStr bytes, and of one more.
func TestEvalLongStrings(t *testing.T) {
	text := strings.Repeat("0123456789", 100)
	for _, first := range []int{0, 1, 500, 999, 1000} {
		a, b := impl.Quote(text[:first]), impl.Quote(text[first:])
		checkEval(t, "let s = "+a+" ^ "+b+" in (print (size s); say s)", "1000|"+text+"|done")
		checkEval(t, "let s = "+a+" ^ "+b+` in let u = s ^ "" in ("" ^ u; 1)`, "bad")
		checkEval(t, "print (size ("+a+" ^ "+b+` ^ ""))`, "1000|done")
		checkEval(t, "print (size ("+a+" ^ "+b+` ^ "x"))`, "raised -4")
		checkEval(t, `try say ("x" ^ `+a+" ^ "+b+") with e -> print e end", "-4|done")
	}
	checkEval(t, `let rec f s = (print (size s); f (s ^ s)) in f "0123456789"`, "10|20|40|80|160|320|640|raised -4")
	// A string of a program may be longer.
	long := impl.Quote(strings.Repeat("a", 1500))
	checkEval(t, "print (size "+long+")", "1500|done")
	checkEval(t, "say "+long, strings.Repeat("a", 1500)+"|done")
	checkEval(t, long+` ^ ""`, "raised -4")
	checkEval(t, `"" ^ `+long, "raised -4")
	nodes := node(impl.EApp, "", node(impl.EVar, "size"), node(impl.EPrim, "^", node(impl.EStr, strings.Repeat("a", 1<<20)), node(impl.EStr, ""))).nodes(nil)
	if got := briefOutcome(evaluated(t, impl.Program{Nodes: nodes}, nil, 10)); got != "raised -4" {
		t.Errorf("the outcome of a long string is %s", got)
	}
}

// TestEvalReferences has references that are shared, and kept in functions.
func TestEvalReferences(t *testing.T) {
	checkEval(t, "let r = ref 1 in (print (!r); r := 2; print (!r))", "1|2|done")
	checkEval(t, "let r = ref 1 in let s = r in (s := 2; print (!r); r := 3; print (!s))", "2|3|done")
	checkEval(t, "let r = ref 1 in let s = ref (!r) in (s := 2; print (!r); print (!s))", "1|2|done")
	checkEval(t, "let r = ref 1 in let s = ref r in (!s := 2; print (!r); s := ref 3; !s := 4; print (!r); print (!(!s)))", "2|2|4|done")
	checkEval(t, "let r = ref 1 in let p = (r, r) in match p with (a, b) -> (a := 5; print (!b); print (!r)) end", "5|5|done")
	checkEval(t, "let l = ref 1 :: ref 2 :: [] in match l with a :: b :: _ -> (a := 7; print (!b); match l with c :: _ -> print (!c) end) end", "2|7|done")
	checkEval(t, "let f = fun x -> x := !x + 1 in let r = ref 1 in (f r; f r; print (!r))", "3|done")
	checkEval(t, "let next = let r = ref 0 in fun x -> (r := !r + x; !r) in (print (next 1); print (next 2); print (next 3))", "1|3|6|done")
	checkEval(t, "let make = fun x -> let r = ref x in fun y -> (r := !r + y; !r) in let a = make 10 in let b = make 20 in (print (a 1); print (b 1); print (a 1); print (b 1))", "11|21|12|22|done")
	checkEval(t, "let r = ref (fun x -> x) in (r := (fun x -> if x < 1 then 0 else x + !r (x - 1)); print ((!r) 4))", "bad")
	checkEval(t, "let r = ref (fun x -> x) in (r := (fun x -> if x < 1 then 0 else x + (!r) (x - 1)); print ((!r) 4))", "10|done")
	checkEval(t, "let r = ref [] in (r := 1 :: !r; r := 2 :: !r; match !r with 2 :: 1 :: [] -> print 3 | _ -> print 4 end)", "3|done")
	checkEval(t, "match ref 1 with r -> (r := 2; print (!r)) end", "2|done")
	checkEval(t, "(ref 1 := 2); print (!(ref 3))", "3|done")
	// A reference keeps what was stored before an exception.
	checkEval(t, "let r = ref 1 in ((try (r := 2; raise 7) with e -> print e end); print (!r))", "7|2|done")
	checkEval(t, "let r = ref 1 in ((try r := raise 7 with e -> print e end); print (!r))", "7|1|done")
	// One that contains itself is a value like any other.
	checkEval(t, "let r = ref 1 in (r := r; r := (r, r); match !r with (a, b) -> print 1 end)", "1|done")
}

// TestEvalExceptions has exceptions that are caught, not caught, and raised
// within the second child of an ETry.
func TestEvalExceptions(t *testing.T) {
	checkEval(t, "raise 5", "raised 5")
	checkEval(t, "raise (- 1)", "raised -1")
	checkEval(t, "try raise 5 with e -> print e end", "5|done")
	checkEval(t, "try (print 1; (raise 5; print 2)) with e -> print e end", "1|5|done")
	checkEval(t, "(try (print 1; raise 5) with e -> print e end); print 3", "1|5|3|done")
	checkEval(t, "print (try 1 with e -> 2 end)", "1|done")
	checkEval(t, "print (1 + (try raise 5 with e -> e * 2 end))", "11|done")
	checkEval(t, "try raise 5 with e -> raise (e + 1) end", "raised 6")
	checkEval(t, "try (try raise 5 with e -> raise (e + 1) end) with e -> print e end", "6|done")
	checkEval(t, "try (try raise 5 with e -> e end) with e -> (print e; 0) end", "done")
	checkEval(t, "try (try (try raise 1 with a -> raise (a + 1) end) with b -> raise (b + 1) end) with c -> raise (c * 10) end", "raised 30")
	checkEval(t, "try raise 1 with a -> try raise 2 with b -> print (a * 10 + b) end end", "12|done")
	checkEval(t, "try raise 1 with a -> ((try raise 2 with a -> print a end); print a) end", "2|1|done")
	checkEval(t, "try raise (raise 3) with e -> print e end", "3|done")
	checkEval(t, "let e = 9 in ((try raise 5 with e -> print e end); print e)", "5|9|done")
	checkEval(t, "let f = fun x -> raise x in try f 4 with e -> print e end", "4|done")
	checkEval(t, "let f = fun x -> try raise x with e -> fun y -> e + y end in print (f 4 5)", "9|done")
	checkEval(t, "let f = try fun x -> raise x with e -> fun x -> print e end in f 3", "raised 3")
	checkEval(t, "let rec f x = if x < 1 then raise 8 else f (x - 1) + 1 in try f 50 with e -> print e; 0 end", "8|done")
	checkEval(t, "let rec f x = if x < 1 then raise 0 else try f (x - 1) with e -> raise (e + x) end in f 10", "raised 55")
	// All that the program may raise by itself is caught, too, and only as a
	// number.
	checkEval(t, "(try print (1 / 0) with e -> print e end); (try match 1 with 2 -> () end with e -> print e end); (try print (read ()) with e -> print e end)", "-2|-1|-3|done")
	checkEval(t, "try 1 / 0 with e -> raise e end", "raised -2")
	checkEval(t, "raise (- 2)", "raised -2")
	// What is not an exception is not caught.
	checkEval(t, "try q with e -> print 1 end", "bad")
	loop := parsed(t, "try (let rec f x = f x in f 1) with e -> print e end")
	if got := briefOutcome(evaluated(t, loop, nil, 500)); got != "steps" {
		t.Errorf("the outcome of a loop is %s", got)
	}
}

// TestEvalNames has names that hide others.
func TestEvalNames(t *testing.T) {
	checkEval(t, "let x = 1 in let x = x + 1 in print x", "2|done")
	checkEval(t, "let x = 1 in ((let x = 2 in print x); print x)", "2|1|done")
	checkEval(t, "let x = 1 in ((fun x -> print x) 2; print x)", "2|1|done")
	checkEval(t, "let x = 1 in ((match 2 with x -> print x end); print x)", "2|1|done")
	checkEval(t, "let x = 1 in match (2, 3) with (y, x) -> print (x * y) end", "6|done")
	checkEval(t, "print ((fun x -> fun x -> x) 1 2); print ((fun x -> fun y -> x) 1 2)", "2|1|done")
	checkEval(t, "let x = 1 in let f = fun y -> x + y in let x = 10 in print (f x)", "11|done")
	checkEval(t, "let y = 1 in let f = fun x -> x + y in let g = fun y -> f y in print (g 5)", "6|done")
	checkEval(t, "let f = fun g -> let x = 5 in g 1 in let x = 2 in print (f (fun y -> x + y))", "3|done")
	checkEval(t, "let f = fun x -> fun y -> x - y in let g = f 10 in let h = f 20 in (print (g 1); print (h 1); print (g 2))", "9|19|8|done")
	checkEval(t, "match 1 with 2 -> 0 | x -> match 5 with y -> (print (x + y); 0) end end", "6|done")
	checkEval(t, "let x = 7 in match (1, 2) with (x, 3) -> print x | _ -> print x end", "7|done")
	// Predefined names can be bound again, and predefined functions are values.
	checkEval(t, "let print = fun x -> say \"no\" in print 1", "no|done")
	checkEval(t, "let print = 1 in print 1", "bad")
	checkEval(t, "let x = 2 in let print = print in print x", "2|done")
	checkEval(t, "let size = print in let print = size in (size 1; print 2)", "1|2|done")
	checkEval(t, "(fun say -> say 1) print", "1|done")
	checkEval(t, "match (print, say) with (say, print) -> (say 1; print \"a\") end", "1|a|done")
	checkEval(t, "try raise 3 with read -> print read end", "3|done")
	checkEval(t, "let rec size x = if x < 1 then 0 else size (x - 1) in print (size 3)", "0|done")
	checkEval(t, "let apply = fun f -> fun x -> f x in (apply print 1; apply say \"a\"; print (apply size \"abc\"); print (apply read ()))", "1|a|3|8|done", 8)
	checkEval(t, "let r = ref print in ((!r) 1; r := (fun x -> print (x * 2)); (!r) 2)", "1|4|done")
	checkEval(t, "let rec each f = fun l -> match l with [] -> () | x :: r -> (f x; each f r) end in (each print (1 :: 2 :: []); each say (\"a\" :: [])); each print []", "1|2|a|done")
	checkEval(t, "match print with f -> f 1 end", "1|done")
	checkEval(t, "A print; 1", "bad")
}

// TestEvalRecursion: the first name of a let rec also hides an outer one, and
// its parameter hides the first name.
func TestEvalRecursion(t *testing.T) {
	checkEval(t, "let rec fact n = if n < 1 then 1 else n * fact (n - 1) in print (fact 20)", "2432902008176640000|done")
	checkEval(t, "let rec fib n = if n < 2 then n else fib (n - 1) + fib (n - 2) in print (fib 15)", "610|done")
	checkEval(t, "let f = fun x -> print 100 in let rec f x = if x < 1 then print 0 else f (x - 1) in f 3", "0|done")
	checkEval(t, "let f = 100 in let rec f x = x in print (f 1)", "1|done")
	checkEval(t, "let f = fun x -> print 100 in let f = fun x -> if x < 1 then print 0 else f (x - 1) in f 3", "100|done")
	checkEval(t, "let rec f f = f in print (f 1)", "1|done")
	checkEval(t, "let rec f f = f + 1 in print (f (f 1))", "3|done")
	checkEval(t, "let rec f f = f 1 in f 2", "bad")
	checkEval(t, "let rec f f = f 5 in f print", "5|done")
	checkEval(t, "let rec f x = f in print ((f 1 2 3; 4))", "bad")
	checkEval(t, "let rec f x = fun y -> if y < 1 then x else f (x * 2) (y - 1) in print (f 1 10)", "1024|done")
	checkEval(t, "let rec f x = let f = fun y -> y * 2 in f x in print (f 4)", "8|done")
	checkEval(t, "let rec f x = match x with f :: r -> f | [] -> 0 end in print (f (5 :: []))", "5|done")
	checkEval(t, "let rec f x = if x < 1 then 0 else 1 + f (x - 1) in let g = f in let f = fun x -> 100 in print (g 3)", "3|done")
	checkEval(t, "let rec f x = if x < 1 then 0 else let rec g y = if y < 1 then f (x - 1) else g (y - 1) in g x in print (f 4)", "0|done")
	checkEval(t, "let rec f x = if x < 1 then print 0 else let rec f y = if y < 1 then print 1 else f (y - 1) in f x in f 4", "1|done")
	checkEval(t, "let rec map f = fun l -> match l with [] -> [] | x :: r -> f x :: map f r end in let rec sum l = match l with [] -> 0 | x :: r -> x + sum r end in print (sum (map (fun x -> x * x) (1 :: 2 :: 3 :: [])))", "14|done")
	checkEval(t, "let rec even n = if n = 0 then true else if n = 1 then false else even (n - 2) in if even 100 then print 1 else print 2", "1|done")
	checkEval(t, "let x = 5 in let rec f x = x in print (f 6 + x)", "11|done")
}
