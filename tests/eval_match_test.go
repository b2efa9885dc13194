package tests

import (
	"testing"

	"loop.example/g00395/impl"
)

// TestMatchOtherKinds: a pattern for a number, constructor, pair or unit does
// not match a value of another kind.
func TestMatchOtherKinds(t *testing.T) {
	for pat, kind := range map[string]string{"7": "number", "()": "unit", "true": "bool", "A": "constructor", "(_, _)": "pair", "_ :: _": "constructor", "A _": "constructor"} {
		for _, text := range others(kind) {
			checkEval(t, "match "+text+" with "+pat+" -> 0 end", "raised -1")
			checkEval(t, "match "+text+" with "+pat+" -> print 1 | _ -> print 2 end", "2|done")
			checkEval(t, "match ("+text+", 1) with ("+pat+", _) -> print 1 | (_, x) -> print (x + 1) end", "2|done")
			checkEval(t, "match A "+text+" with A ("+pat+") -> print 1 | A x -> print 2 end", "2|done")
		}
	}
	for _, text := range others() {
		checkEval(t, "match "+text+" with _ -> print 1 end", "1|done")
		checkEval(t, "match "+text+" with x -> let y = x in print 1 end", "1|done")
		checkEval(t, "match "+text+" :: [] with (x :: []) -> print 1 end", "1|done")
	}
}

func TestMatchConstructors(t *testing.T) {
	for _, value := range []string{"A", "B", "true", "false", "[]", "(A 1)", "(A 2)", "(B 1)", "(A A)", "(A (A 1))", "(A (1, 2))", "(1 :: [])", "(1 :: 2 :: [])", "(A (1 :: []))"} {
		for _, pat := range []string{"A", "B", "true", "false", "[]", "(A 1)", "(A 2)", "(B 1)", "(A A)", "(A (A 1))", "(A (1, 2))", "(1 :: [])", "(1 :: 2 :: [])", "(A (1 :: []))"} {
			want := "2|done"
			if value == pat {
				want = "1|done"
			}
			checkEval(t, "match "+value+" with "+pat+" -> print 1 | _ -> print 2 end", want)
		}
	}
	// The same name, with and without a value.
	checkEval(t, "match A with A _ -> print 1 | A -> print 2 end", "2|done")
	checkEval(t, "match A () with A -> print 1 | A _ -> print 2 end", "2|done")
	checkEval(t, "match A (1, 2) with A (x, (y, z)) -> print 1 | A _ -> print 2 end", "2|done")
	checkEval(t, "match (1, []) with _ :: _ -> print 1 | (x, y) -> print 2 end", "2|done")
}

func TestMatchNumbers(t *testing.T) {
	checkEval(t, "match 4611686018427387903 with 4611686018427387903 -> print 1 end", "1|done")
	checkEval(t, "match - 4611686018427387903 with - 4611686018427387903 -> print 1 end", "1|done")
	checkEval(t, "match - 4611686018427387903 - 1 with - 4611686018427387903 -> print 1 | 4611686018427387903 -> print 2 | 0 -> print 3 | x -> print x end", "-4611686018427387904|done")
	checkEval(t, "match 1 with - 1 -> print 1 | 0 -> print 2 | 1 -> print 3 end", "3|done")
	checkEval(t, "match 0 - 1 with 1 -> print 1 | 0 -> print 2 | - 1 -> print 3 end", "3|done")
	checkEval(t, "match 0 with - 0 -> print 1 end", "1|done")
}

// TestMatchFirstArm: the first arm that matches counts.
func TestMatchFirstArm(t *testing.T) {
	checkEval(t, "match 1 with x -> print x | 1 -> print 5 end", "1|done")
	checkEval(t, "match 1 with 1 -> print 6 | x -> print x | 1 -> print 5 end", "6|done")
	checkEval(t, "match (1, 2) with (2, _) -> print 1 | (_, 1) -> print 2 | (1, _) -> print 3 | (_, 2) -> print 4 end", "3|done")
	checkEval(t, "match (1, 2) with (x, 1) -> print x | (2, x) -> print x | (x, y) -> print (10 * x + y) end", "12|done")
	checkEval(t, "match 1 :: 2 :: [] with [] -> print 0 | x :: [] -> print x | x :: y :: z :: _ -> print z | x :: y :: [] -> print (10 * x + y) end", "12|done")
	checkEval(t, "match 3 with 1 -> () | 2 -> () end", "raised -1")
	checkEval(t, "match (1, 2) with (2, x) -> () | (x, 1) -> () end", "raised -1")
	checkEval(t, "match \"a\" with 1 -> () | () -> () | (_, _) -> () | A -> () | _ :: _ -> () end", "raised -1")
}

func TestMatchNestedPatterns(t *testing.T) {
	checkEval(t, "match ((1, 2), (3, 4)) with ((a, b), (c, d)) -> print (a * 1000 + b * 100 + c * 10 + d) end", "1234|done")
	checkEval(t, "match ((1, 2), (3, 4)) with ((a, _), (_, d)) -> print (a * 10 + d) end", "14|done")
	checkEval(t, "match ((1, 2), (3, 4)) with (a, (_, d)) -> match a with (x, y) -> print (x * 100 + y * 10 + d) end end", "124|done")
	checkEval(t, "match (1, 2) :: (3, 4) :: [] with (a, b) :: (c, d) :: r -> print (a * 1000 + b * 100 + c * 10 + d) end", "1234|done")
	checkEval(t, "match 1 :: 2 :: 3 :: [] with x :: r -> match r with y :: z :: [] -> print (x * 100 + y * 10 + z) end end", "123|done")
	checkEval(t, "match Node (Node (Leaf, (1, Leaf)), (2, Leaf)) with Node (Node (l, (v, _)), (w, r)) -> match (l, r) with (Leaf, Leaf) -> print (v * 10 + w) end end", "12|done")
	checkEval(t, "match A (B (C 7)) with A (B (C 8)) -> print 8 | A (B x) -> match x with C y -> print y end end", "7|done")
	checkEval(t, "match (true, (false, ())) with (false, _) -> print 1 | (true, (true, _)) -> print 2 | (true, (false, ())) -> print 3 end", "3|done")
	checkEval(t, "match (fun x -> x * 2, ref 5) with (f, r) -> (r := f (!r); print (!r)) end", "10|done")
	checkEval(t, "let x = 1 in match 2 with y -> print (x * 10 + y) end", "12|done")
}

// exprOf is an expression with a value.
func exprOf(d impl.Data, at int) *draft {
	n := d.Nodes[at]
	kids := []*draft{}
	for _, kid := range n.Kids {
		kids = append(kids, exprOf(d, kid))
	}
	number := func(n int) *draft { return &draft{Node: impl.Node{Kind: impl.EInt, N: n}} }
	switch {
	case n.Kind == impl.PVar:
		return node(impl.EStr, n.S)
	case n.Kind == impl.PUnit:
		return node(impl.EUnit, "")
	case n.Kind == impl.PCon:
		return node(impl.ECon, n.S, kids...)
	case n.Kind == impl.PPair:
		return node(impl.EPair, "", kids...)
	case n.N == impl.MinInt:
		return node(impl.EPrim, "-", exprOf(single(impl.PInt, impl.MinInt+1, ""), 0), number(1))
	case n.N < 0:
		return node(impl.EPrim, "-", number(0), number(-n.N))
	}
	return number(n.N)
}

// onlyThis is a pattern for a value, with names in place of what no pattern
// can tell apart.
func onlyThis(d impl.Data, at int) *patDraft {
	n := d.Nodes[at]
	if n.Kind == impl.PVar || n.N == impl.MinInt {
		return &patDraft{PNode: pnode(impl.PWild, 0, "")}
	}
	q := &patDraft{PNode: pnode(n.Kind, n.N, n.S)}
	for _, kid := range n.Kids {
		q.kids = append(q.kids, onlyThis(d, kid))
	}
	return q
}

func armDraft(q *patDraft, body *draft, d *draft) {
	d.pats, d.kids = append(d.pats, q), append(d.kids, body)
}

// checkBound matches a value in a program, and then what the names are bound
// to, one after another.
func checkBound(t *testing.T, d impl.Data, q *patDraft, names []string, bound []impl.Data) {
	t.Helper()
	body := node(impl.EApp, "", variable("say"), node(impl.EStr, "all"))
	for i, name := range names {
		test := node(impl.EMatch, "", variable(name))
		armDraft(onlyThis(bound[i], 0), body, test)
		body = test
	}
	whole := node(impl.EMatch, "", exprOf(d, 0))
	armDraft(q, body, whole)
	p := impl.Program{Nodes: whole.nodes(nil)}
	want := "raised -1"
	if _, hit := impl.Hit(impl.Pat{Nodes: q.nodes(nil)}, d); hit {
		want = "all|done"
	}
	if got := briefOutcome(evaluated(t, p, nil, impl.MaxSteps)); got != want {
		t.Errorf("the outcome is %s, not %s, for %s", got, want, brief(impl.PrintProgram(p)))
	}
}

// namesOf are the names of a pattern, in the order of its nodes.
func namesOf(q *patDraft) []string {
	names := []string{}
	for _, n := range q.nodes(nil) {
		if n.Kind == impl.PVar {
			names = append(names, n.S)
		}
	}
	return names
}

// TestMatchAsHit compares the arms of a match with Hit, for random patterns
// and values.
func TestMatchAsHit(t *testing.T) {
	hits, misses := 0, 0
	for seed := range uint32(5000) {
		g := &lot{seed: seed}
		d := g.randomData(1 + g.next(14))
		count := 0
		q, bound := g.openedData(d, 0, &count)
		if hitPattern := (impl.Pat{Nodes: q.nodes(nil)}); !impl.PatOk(hitPattern) {
			t.Fatalf("the pattern %v is not valid", hitPattern)
		}
		checkBound(t, d, q, namesOf(q), bound)
		other := g.changedData(d)
		parts, hit := impl.Hit(impl.Pat{Nodes: q.nodes(nil)}, other)
		if hit {
			hits++
			checkBound(t, other, q, namesOf(q), parts)
		} else {
			misses++
			checkBound(t, other, q, nil, nil)
		}
		if t.Failed() {
			return
		}
	}
	if hits < 500 || misses < 500 {
		t.Errorf("there were %d hits and %d misses", hits, misses)
	}
}

// TestMatchManyNames has a pattern with as many names as there can be.
func TestMatchManyNames(t *testing.T) {
	wide := impl.Data{Nodes: wideData(299)}
	q := &patDraft{PNode: pnode(impl.PVar, 0, "v0")}
	sum := variable("v0")
	for i := 1; i < 100; i++ {
		name := "v" + impl.NumText(i)
		q = &patDraft{PNode: pnode(impl.PPair, 0, ""), kids: []*patDraft{{PNode: pnode(impl.PVar, 0, name)}, q}}
		sum = node(impl.EPrim, "-", variable(name), sum)
	}
	value := &draft{Node: impl.Node{Kind: impl.EInt, N: 0}}
	for i := 1; i < 100; i++ {
		value = node(impl.EPair, "", &draft{Node: impl.Node{Kind: impl.EInt, N: i}}, value)
	}
	whole := node(impl.EMatch, "", value)
	armDraft(q, node(impl.EApp, "", variable("print"), sum), whole)
	if got := briefOutcome(evaluated(t, impl.Program{Nodes: whole.nodes(nil)}, nil, impl.MaxSteps)); got != "50|done" {
		t.Errorf("the outcome is %s", got)
	}
	largest := node(impl.EMatch, "", node(impl.EUnit, ""))
	armDraft(onlyThis(wide, 0), node(impl.EUnit, ""), largest)
	if got := briefOutcome(evaluated(t, impl.Program{Nodes: largest.nodes(nil)}, nil, impl.MaxSteps)); got != "raised -1" {
		t.Errorf("the outcome of a large pattern is %s", got)
	}
}
