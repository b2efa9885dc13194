package tests

import (
	"reflect"
	"slices"
	"testing"

	"loop.example/g00395/impl"
)

// coverTypes are the types of the programs of this file.
const coverTypes = "type t = A | B of int; type 'a o = N | S of 'a; type ('a, 'b) e = L of 'a | R of 'b; type c = Red | Green | Blue; " +
	"type n = Z | Next of n; type b = Box of b; type ('a, 'b) p = P of 'a * 'b; type h = F of int -> int | G of int ref | H of string | I of string * bool; "

// checkCover checks whether patterns, separated by bars, match all values, and
// which of them are useless.
func checkCover(t *testing.T, pats string, complete bool, useless ...int) {
	t.Helper()
	got, gotUseless, ok := covered(t, parsed(t, coverTypes+"()"), patsOf(t, pats))
	if !ok || got != complete || !slices.Equal(gotUseless, useless) {
		t.Errorf("Complete is %v and %v, not %v, Useless is %v, not %v, for %s", got, ok, complete, gotUseless, useless, pats)
	}
}

// checkNoCover checks patterns without a common type.
func checkNoCover(t *testing.T, pats string) {
	t.Helper()
	if complete, useless, ok := covered(t, parsed(t, coverTypes+"()"), patsOf(t, pats)); ok || complete || len(useless) > 0 {
		t.Errorf("Complete is %v and %v, Useless is %v, for %s", complete, ok, useless, pats)
	}
}

func TestCoverAnything(t *testing.T) {
	checkCover(t, "_", true)
	checkCover(t, "x", true)
	checkCover(t, "x|_", true, 1)
	checkCover(t, "_|x|y|_", true, 1, 2, 3)
	checkCover(t, "x|1", true, 1)
	checkCover(t, "_|true|false", true, 1, 2)
	checkCover(t, "_|x :: y|[]", true, 1, 2)
}

// TestCoverNumbers: no numbers are all numbers.
func TestCoverNumbers(t *testing.T) {
	checkCover(t, "0", false)
	checkCover(t, "0|1|2", false)
	checkCover(t, "0|1|0", false, 2)
	checkCover(t, "0|-0|1", false, 1)
	checkCover(t, "1|-1", false)
	checkCover(t, "0|1|_", true)
	checkCover(t, "0|x|1|0|_", true, 2, 3, 4)
	checkCover(t, "4611686018427387903|-4611686018427387903|4611686018427387903|-4611686018427387903", false, 2, 3)
	checkCover(t, "4611686018427387903|4611686018427387902|_", true)
}

func TestCoverUnitsAndPairs(t *testing.T) {
	checkCover(t, "()", true)
	checkCover(t, "()|()", true, 1)
	checkCover(t, "()|_", true, 1)
	checkCover(t, "_|()", true, 1)
	checkCover(t, "(_, _)", true)
	checkCover(t, "(x, y)|_", true, 1)
	checkCover(t, "x|(y, z)", true, 1)
	checkCover(t, "((), ())", true)
	checkCover(t, "((), x)|(x, ())", true, 1)
	checkCover(t, "((), ((), x))", true)
	checkCover(t, "(1, _)", false)
	checkCover(t, "(1, _)|(_, 1)", false)
	checkCover(t, "(1, _)|(_, 1)|(1, 1)|(2, 1)|(2, 2)", false, 2, 3)
	checkCover(t, "(1, _)|(_, 1)|(_, _)", true)
	checkCover(t, "(1, ())|(_, ())|_", true, 2)
	checkCover(t, "(1, 2)|(1, 3)|(1, x)|(1, 4)|y", true, 3)
}

func TestCoverBools(t *testing.T) {
	checkCover(t, "true", false)
	checkCover(t, "false", false)
	checkCover(t, "true|false", true)
	checkCover(t, "false|true|_", true, 2)
	checkCover(t, "true|true|false|false", true, 1, 3)
	checkCover(t, "true|_|false", true, 2)
	checkCover(t, "(true, _)|(_, false)|(false, true)", true)
	checkCover(t, "(true, _)|(_, false)", false)
	checkCover(t, "(true, _)|(_, true)|(false, false)|(_, _)|(false, _)", true, 3, 4)
	checkCover(t, "(true, _)|(false, _)|(_, true)|(_, false)", true, 2, 3)
	checkCover(t, "(true, true)|(true, false)|(true, _)", false, 2)
	checkCover(t, "(x, true)|(y, false)", true)
	checkCover(t, "((true, _), _)|((_, true), _)|((false, false), true)", false)
	checkCover(t, "((true, _), _)|((_, true), _)|((false, false), true)|((_, _), false)", true)
	checkCover(t, "(true, (true, _))|(_, (false, true))|(false, (_, false))|(true, (_, false))|(false, (true, true))", true)
	checkCover(t, "(true, (true, _))|(_, (false, true))|(false, (_, false))|(true, (_, false))|(false, (false, true))", false, 4)
	checkCover(t, "(true, (_, true))|(false, (true, _))|(_, (true, true))", false, 2)
}

func TestCoverLists(t *testing.T) {
	checkCover(t, "[]", false)
	checkCover(t, "x :: r", false)
	checkCover(t, "[]|x :: r", true)
	checkCover(t, "x :: r|[]|_", true, 2)
	checkCover(t, "[]|x :: y :: r", false)
	checkCover(t, "[]|x :: []|x :: y :: r", true)
	checkCover(t, "x :: y :: r|x :: r|[]|[]", true, 3)
	checkCover(t, "[]|x :: []|x :: y :: []|x :: y :: z :: r", true)
	checkCover(t, "[]|x :: []|x :: y :: []|x :: y :: z :: []", false)
	checkCover(t, "[]|true :: _|false :: _", true)
	checkCover(t, "[]|true :: _|_ :: true :: _|false :: []", false)
	checkCover(t, "[]|true :: _|_ :: true :: _|false :: []|false :: false :: _", true)
	checkCover(t, "[]|1 :: _|_ :: []", false)
	checkCover(t, "[]|() :: _", true)
	checkCover(t, "[]|(() :: _) :: _|[] :: _", true)
	checkCover(t, "[]|[] :: _", false)
	checkCover(t, "x :: []|1 :: []|x :: 1 :: []", false, 1)
	checkCover(t, "x :: y :: _|1 :: 2 :: []|_ :: _ :: 3 :: _", false, 1, 2)
	checkCover(t, "([], _)|(_, [])|(_ :: _, _ :: _)|(_ :: _, [])", true, 3)
	checkCover(t, "([], _)|(_, [])|(_ :: [], _ :: _)", false)
}

func TestCoverOwnTypes(t *testing.T) {
	checkCover(t, "A", false)
	checkCover(t, "B _", false)
	checkCover(t, "A|B _", true)
	checkCover(t, "A|B 0", false)
	checkCover(t, "B 0|A|B 1|B _|B 2|A", true, 4, 5)
	checkCover(t, "Red|Green", false)
	checkCover(t, "Red|Blue|Green|Red|_", true, 3, 4)
	checkCover(t, "(Red, _)|(Green, _)|(_, Blue)|(Blue, _)", true)
	checkCover(t, "(Red, Red)|(Green, Green)|(Blue, Blue)|(_, Red)|(_, Green)|(_, Blue)", true)
	checkCover(t, "(Red, Red)|(Green, Green)|(Blue, Blue)|(Red, _)|(Green, _)", false)
	checkCover(t, "F _|G _|H _|I _", true)
	checkCover(t, "F _|G _|H x", false)
	checkCover(t, "F _|G _|H _|I (_, true)|I (x, false)|F x|I _", true, 5, 6)
	checkCover(t, "F _|G _|H _|I (_, true)", false)
}

func TestCoverTypesWithParameters(t *testing.T) {
	checkCover(t, "N", false)
	checkCover(t, "N|S _", true)
	checkCover(t, "N|S true|S false", true)
	checkCover(t, "N|S (S 1)|S N|S (S _)", true)
	checkCover(t, "N|S (S _)|S (S N)", false, 2)
	checkCover(t, "S (S (S _))|S (S N)|S N|N", true)
	checkCover(t, "L _|R _", true)
	checkCover(t, "L true|R []|R (_ :: _)", false)
	checkCover(t, "L true|R []|R (_ :: _)|L false|L _", true, 4)
	checkCover(t, "R (L _)|L true|R (R ())|L false", true)
	checkCover(t, "P _", true)
	checkCover(t, "P (x, y)", true)
	checkCover(t, "P (true, _)|P (_, N)|P (false, S (P (_, ())))", true)
	checkCover(t, "P (true, _)|P (_, N)|P (false, S (P (1, _)))", false)
	checkCover(t, "S (A)|S (B 1)|N|S (B _)", true)
}

// TestCoverInfiniteValues: values may be infinite, so all types have some.
func TestCoverInfiniteValues(t *testing.T) {
	checkCover(t, "Box _", true)
	checkCover(t, "Box (Box x)", true)
	checkCover(t, "Box (Box (Box (Box x)))", true)
	checkCover(t, "Box x|Box (Box y)", true, 1)
	checkCover(t, "Box (Box x)|Box x|x", true, 1, 2)
	checkCover(t, "(Box (Box _), true)", false)
	checkCover(t, "(Box (Box _), true)|(Box _, false)|(_, false)", true, 2)
	checkCover(t, "Z|Next Z", false)
	checkCover(t, "Z|Next Z|Next (Next Z)|Next (Next (Next Z))", false)
	checkCover(t, "Z|Next Z|Next (Next Z)|Next (Next (Next _))", true)
	checkCover(t, "Next _", false)
	// An L must have a value of b, which is infinite.
	checkCover(t, "R _", false)
	checkCover(t, "R _|L (Box (Box _))", true)
	checkCover(t, "R 1|L (Box _)|R _", true)
	checkCover(t, "S (Box _)", false)
	checkCover(t, "[]|Box _ :: []", false)
	for _, types := range []string{
		"type t = K of t; type u = M of t | O of u; ()", "type t = K of u; type u = M of t | O of u; ()",
		"type 'a t = K of ('a * 'a) t; type u = M of int t | O of bool t; ()", "type t = K of t * t; type u = M of t * u | O of t list; ()",
	} {
		for _, k := range []struct {
			pats     string
			complete bool
			useless  []int
		}{
			{"O _", false, nil}, {"M _", false, nil}, {"M _|O _", true, nil}, {"O x|O _|M _", true, []int{1}}, {"K _", true, nil}, {"K _|K x|_", true, []int{1, 2}},
		} {
			complete, useless, ok := covered(t, parsed(t, types), patsOf(t, k.pats))
			if !ok || complete != k.complete || !slices.Equal(useless, k.useless) {
				t.Errorf("Complete is %v and %v, Useless is %v for %s and %s", complete, ok, useless, k.pats, types)
			}
		}
	}
}

// TestCoverTypeOfLaterPatterns: the types are those that all patterns have
// together.
func TestCoverTypeOfLaterPatterns(t *testing.T) {
	checkCover(t, "(x, 1)|(true, _)|(false, _)", true)
	checkCover(t, "(x, 1)|(true, _)", false)
	checkCover(t, "(_, _)|(true, 1)", true, 1)
	checkCover(t, "x|(_, _)|((), _)|(_, true)", true, 1, 2, 3)
	checkCover(t, "_ :: _|[]|true :: _", true, 2)
	checkCover(t, "[]|_ :: []|_ :: true :: _|_ :: false :: _", true)
	checkCover(t, "L _|R _|R true|L ()", true, 2, 3)
	checkCover(t, "(N, _)|(_, N)|(S 1, S true)", false)
	checkCover(t, "(N, _)|(_, N)|(S _, S true)|(_, S false)", true)
	checkCover(t, "S _|N|S N|S (S _)|S (S (Box _))", true, 2, 3, 4)
}

// TestCoverUndetermined: values of undetermined types, strings, functions and
// references are matched by wildcards and names alone.
func TestCoverUndetermined(t *testing.T) {
	checkCover(t, "(x, [])|(_, _ :: _)", true)
	checkCover(t, "([], [])|(_ :: _, _)|(_, _ :: _)", true)
	checkCover(t, "([], [])|(_ :: _, _)", false)
	checkCover(t, "L x|L y|R _", true, 1)
	checkCover(t, "(x, (y, z))", true)
	checkCover(t, "H _|H x", false, 1)
	checkCover(t, "(H _, 1)|(H _, _)|(H x, 2)", false, 2)
	checkCover(t, "F f|G r|H s|I (s, _)", true)
	checkCover(t, "(F f, G r)|(F _, G _)", false, 1)
}

func TestUselessOrder(t *testing.T) {
	checkCover(t, "true|false", true)
	checkCover(t, "(true, _)|(true, true)|(_, _)|(true, true)", true, 1, 3)
	checkCover(t, "(true, true)|(true, _)|(true, true)|(_, true)|(true, false)", false, 2, 4)
	// It takes several patterns to make one useless.
	checkCover(t, "(true, _)|(false, _)|(_, 1)", true, 2)
	checkCover(t, "(true, 1)|(false, 1)|(_, 1)|(_, 2)", false, 2)
	checkCover(t, "(true, 1)|(_, 1)|(false, 1)|(_, 2)", false, 2)
	checkCover(t, "Red|Green|x|Blue", true, 3)
	checkCover(t, "Red|Green|Blue|x", true, 3)
	// A useless pattern does not make others useless.
	checkCover(t, "1|1|1|2|2|x|x", true, 1, 2, 4, 6)
}

func TestCoverWithoutType(t *testing.T) {
	for _, pats := range []string{
		"", "1|true", "1|()", "x|1|true", "1|_|true", "(1, x)|(true, y)", "[]|N", "A|N", "B true", "B|B 1", "A 1", "C", "_|C", "1 :: true :: _", "1 :: 2", "[]|1 :: _|true :: _",
		"_|_|1|_|true", "true|false|1", "S|N", "P 1", "(x, y)|()", "Box 1",
	} {
		checkNoCover(t, pats)
	}
}

// TestCoverBadArguments has programs that no Parse returns or that CheckTypes
// refuses, and patterns that PatOk refuses.
func TestCoverBadArguments(t *testing.T) {
	good := parsed(t, coverTypes+"()")
	check := func(what string, p impl.Program, l []impl.Pat, want bool) {
		t.Helper()
		complete, ok := impl.Complete(p, l)
		useless, also := impl.Useless(p, l)
		if ok != want || also != want || !want && (complete || len(useless) > 0) {
			t.Errorf("%s: Complete is %v and %v, Useless is %v and %v", what, complete, ok, useless, also)
		}
	}
	check("good", good, patsOf(t, "A|B _"), true)
	check("nil", good, nil, false)
	check("no patterns", good, []impl.Pat{}, false)
	for what, q := range map[string]impl.Pat{
		"no nodes": {}, "an unknown kind": {Nodes: []impl.PNode{pnode(7, 0, "")}}, "no tree": {Nodes: []impl.PNode{pnode(impl.PWild, 0, ""), pnode(impl.PWild, 0, "")}},
		"a name twice": {Nodes: []impl.PNode{pnode(impl.PPair, 0, "", 1, 2), pnode(impl.PVar, 0, "x"), pnode(impl.PVar, 0, "x")}},
		"a number":     {Nodes: []impl.PNode{pnode(impl.PInt, impl.MinInt, "")}}, "a loop": {Nodes: []impl.PNode{pnode(impl.PCon, 0, "Box", 0)}},
		"a lone ::": {Nodes: []impl.PNode{pnode(impl.PCon, 0, "::")}}, "too many nodes": widePat(300, pnode(impl.PWild, 0, "")),
	} {
		for _, pats := range []string{"", "_", "x|y"} {
			l := patsOf(t, pats)
			check(what, good, append(slices.Clone(l), q), false)
			check(what, good, append([]impl.Pat{q}, l...), false)
		}
	}
	for _, types := range []string{"type int = A;", "type t = A | A;", "type t = A of u;", "type t = A; type t = B;", "type t = A of list;", "type t = A of t ref; type list = B;"} {
		for _, pats := range []string{"_", "x|1", "true|false", "[]|_ :: _"} {
			check(types, parsed(t, types+" ()"), patsOf(t, pats), false)
		}
	}
	// The expression of the program need not have a type, but it must be
	// valid.
	for _, expr := range []string{"x", "1 2", "fun x -> x x", "match 1 with true -> 2 end"} {
		check(expr, parsed(t, coverTypes+expr), patsOf(t, "A|B 1|B _"), true)
	}
	check("no expression", impl.Program{Types: good.Types}, patsOf(t, "A|B _"), false)
	check("two expressions", impl.Program{Types: good.Types, Nodes: slices.Repeat(good.Nodes, 2)}, patsOf(t, "A|B _"), false)
	check("the zero value", impl.Program{}, patsOf(t, "_"), false)
	bad := cloned(good)
	bad.Types[0].Cons = nil
	check("a type without constructors", bad, patsOf(t, "_"), false)
	bad = cloned(good)
	bad.Types[0].Cons[0].Name = "a"
	check("a bad constructor", bad, patsOf(t, "_"), false)
	bad = cloned(good)
	bad.Nodes[0].At = -1
	check("a bad offset", bad, patsOf(t, "_"), false)
}

// TestCoverPatternsOfAMatch has the patterns in their own program.
func TestCoverPatternsOfAMatch(t *testing.T) {
	p := parsed(t, "type t = A | B of int * t; match A with A -> 0 | B (0, _) -> 1 | B (_, A) -> 2 | B (x, B y) -> 3 | A -> 4 end")
	if complete, useless, ok := covered(t, p, p.Nodes[0].Pats); !ok || !complete || !slices.Equal(useless, []int{4}) {
		t.Errorf("Complete is %v and %v, Useless is %v", complete, ok, useless)
	}
	if complete, useless, ok := covered(t, p, p.Nodes[0].Pats[:3]); !ok || complete || len(useless) > 0 {
		t.Errorf("Complete is %v and %v, Useless is %v", complete, ok, useless)
	}
}

// TestCoverLeavesItsArguments: nothing is changed, and a result that is changed
// has no influence on anything else.
func TestCoverLeavesItsArguments(t *testing.T) {
	for _, pats := range []string{"true -> 1 | x -> 2 | false", "(x, [])-> 1 | (_, y :: z) -> 2 | (1, [])", "1 -> 1 | true", "C"} {
		p := roomyProgram(parsed(t, coverTypes+"match () with "+pats+" -> 3 end"))
		before := stretched(p)
		l := p.Nodes[0].Pats
		complete, useless, ok := covered(t, p, l)
		kept := slices.Clone(useless)
		for i := range useless[:cap(useless)] {
			useless[:cap(useless)][i] = 91
		}
		again, same, also := covered(t, p, l)
		if again != complete || also != ok || !slices.Equal(same, kept) {
			t.Errorf("different answers for %s", pats)
		}
		if !reflect.DeepEqual(stretched(p), before) {
			t.Errorf("an argument has changed: %s", pats)
		}
	}
}
