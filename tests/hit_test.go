package tests

import (
	"fmt"
	"math"
	"reflect"
	"slices"
	"strings"
	"testing"

	"loop.example/g00395/impl"
)

// sameData takes nil and empty lists of children as the same.
func sameData(a impl.Data, b impl.Data) bool {
	return slices.EqualFunc(a.Nodes, b.Nodes, func(n impl.DNode, m impl.DNode) bool {
		return n.Kind == m.Kind && n.N == m.N && n.S == m.S && slices.Equal(n.Kids, m.Kids)
	})
}

// copiedPart is the value at a node of another one.
func copiedPart(d impl.Data, at int) impl.Data {
	n := d.Nodes[at]
	part := impl.Data{Nodes: []impl.DNode{dnode(n.Kind, n.N, n.S)}}
	for _, kid := range n.Kids {
		size := len(part.Nodes)
		part.Nodes[0].Kids = append(part.Nodes[0].Kids, size)
		part.Nodes = append(part.Nodes, moveData(copiedPart(d, kid).Nodes, size)...)
	}
	return part
}

// secondHit is Hit for a part of a valid pattern and a part of a valid value.
func secondHit(q impl.Pat, i int, d impl.Data, j int) ([]impl.Data, bool) {
	n, m := q.Nodes[i], d.Nodes[j]
	if n.Kind == impl.PWild {
		return nil, true
	}
	if n.Kind == impl.PVar {
		return []impl.Data{copiedPart(d, j)}, true
	}
	if n.Kind != m.Kind || n.Kind == impl.PInt && n.N != m.N || n.Kind == impl.PCon && n.S != m.S || len(n.Kids) != len(m.Kids) {
		return nil, false
	}
	bound := []impl.Data{}
	for k := range n.Kids {
		more, hit := secondHit(q, n.Kids[k], d, m.Kids[k])
		if !hit {
			return nil, false
		}
		bound = append(bound, more...)
	}
	return bound, true
}

// hitBy is what Hit returns, after it has been compared with secondHit.
func hitBy(t *testing.T, q impl.Pat, d impl.Data) ([]impl.Data, bool) {
	t.Helper()
	got, hit := impl.Hit(q, d)
	want, wantHit := secondHit(q, 0, d, 0)
	if hit != wantHit || !slices.EqualFunc(got, want, sameData) {
		t.Fatalf("Hit is %v and %v, not %v and %v, for %s and %v", got, hit, want, wantHit, brief(impl.PrintPat(q)), brief(fmt.Sprint(d)))
	}
	for _, value := range got {
		if !impl.DataOk(value) {
			t.Fatalf("%v is no value", value)
		}
	}
	return got, hit
}

// checkHit checks that a pattern matches a value, and what it binds. The texts
// are those of dataOf.
func checkHit(t *testing.T, pat string, value string, bound ...string) {
	t.Helper()
	got, hit := hitBy(t, patOf(t, pat), dataOf(t, value))
	want := []impl.Data{}
	for _, text := range bound {
		want = append(want, dataOf(t, text))
	}
	if !hit || !slices.EqualFunc(got, want, sameData) {
		t.Errorf("%s against %s: Hit is %v and %v", pat, value, got, hit)
	}
}

func checkNoHit(t *testing.T, pat string, value string) {
	t.Helper()
	if got, hit := hitBy(t, patOf(t, pat), dataOf(t, value)); hit || len(got) > 0 {
		t.Errorf("%s against %s: Hit is %v and %v", pat, value, got, hit)
	}
}

// plainValues are values without strings, so they are patterns, too.
var plainValues = []string{
	"0", "1", "-1", "2", "4611686018427387903", "-4611686018427387903", "()", "true", "false", "[]", "A", "B", "True",
	"A 0", "A 1", "A ()", "B ()", "A A", "A B", "B A", "A (A 1)", "A (B 1)", "A true", "A []", "A (1, 2)", "B (1, 2)",
	"(1, 2)", "(2, 1)", "(1, 1)", "((), ())", "(1, ())", "((), 1)", "(A, B)", "(A 1, B)", "(1, (2, 1))", "((1, 2), 1)", "((1, 2), (2, 1))",
	"1 :: []", "2 :: []", "() :: []", "[] :: []", "1 :: 2 :: []", "1 :: 1 :: []", "(1 :: []) :: []", "(1, 2) :: []", "A 1 :: []", "(1, [])", "(1, 1 :: [])",
}

// TestHitPlain: a pattern without names and wildcards matches one value.
func TestHitPlain(t *testing.T) {
	for _, pat := range plainValues {
		for _, value := range plainValues {
			if pat == value {
				checkHit(t, pat, value)
			} else {
				checkNoHit(t, pat, value)
			}
		}
		for _, text := range []string{"x", "abc"} {
			checkNoHit(t, pat, text)
		}
		checkHit(t, "_", pat)
		checkHit(t, "x", pat, pat)
		checkHit(t, "(_, x)", "(("+pat+"), "+pat+")", pat)
		checkHit(t, "(x, _)", "(("+pat+"), "+pat+")", pat)
		checkHit(t, "(x, y)", "(("+pat+"), 83)", pat, "83")
		checkHit(t, "A x", "A ("+pat+")", pat)
		checkHit(t, "x :: y :: z", "("+pat+") :: ("+pat+") :: []", pat, pat, "[]")
		checkNoHit(t, "("+pat+", 5)", "(("+pat+"), 6)")
		checkNoHit(t, "(5, "+pat+")", "(6, "+pat+")")
		checkHit(t, "(5, ("+pat+", x))", "(5, (("+pat+"), 6))", "6")
	}
	// MinInt is a number that no pattern matches.
	for _, pat := range plainValues {
		if _, hit := impl.Hit(patOf(t, pat), impl.Data{Nodes: []impl.DNode{dnode(impl.PInt, impl.MinInt, "")}}); hit {
			t.Errorf("%s matches MinInt", pat)
		}
	}
}

// TestHitStrings: only wildcards and names match strings, whatever they are.
func TestHitStrings(t *testing.T) {
	for _, s := range slices.Concat(badWords, []string{"x", "A", "true", "[]", "::", "0", strings.Repeat("long ", 1000)}) {
		for _, pat := range plainValues {
			if _, hit := hitBy(t, patOf(t, pat), impl.Data{Nodes: []impl.DNode{dnode(impl.PVar, 0, s)}}); hit {
				t.Errorf("%s matches the string %s", pat, brief(s))
			}
		}
		d := impl.Data{Nodes: []impl.DNode{dnode(impl.PPair, 0, "", 1, 2), dnode(impl.PInt, 1, ""), dnode(impl.PVar, 0, s)}}
		for pat, count := range map[string]int{"_": 0, "x": 1, "(1, _)": 0, "(1, x)": 1, "(x, y)": 2} {
			got, hit := hitBy(t, patOf(t, pat), d)
			if !hit || len(got) != count || count > 0 && got[count-1].Nodes[len(got[count-1].Nodes)-1].S != s {
				t.Errorf("Hit of %s is %v and %v", pat, got, hit)
			}
		}
	}
}

func TestHitForms(t *testing.T) {
	checkHit(t, "(x, (3, _) :: r)", "((), (3, text) :: [])", "()", "[]")
	checkNoHit(t, "(x, (3, _) :: r)", "((), (4, text) :: [])")
	checkNoHit(t, "(x, (3, _) :: r)", "((), [])")
	checkHit(t, "x :: r", "1 :: 2 :: 3 :: []", "1", "2 :: 3 :: []")
	checkHit(t, "(a, b) :: (c, d) :: e", "(1, 2) :: (3, 4) :: (5, 6) :: []", "1", "2", "3", "4", "(5, 6) :: []")
	checkNoHit(t, "x :: []", "1 :: 2 :: []")
	checkNoHit(t, "x :: y :: z", "1 :: []")
	checkHit(t, "((a, b), (c, d))", "((1, (2, 3)), (4 :: [], text))", "1", "(2, 3)", "4 :: []", "text")
	checkHit(t, "((z, _), (_, y))", "((1, 2), (3, 4))", "1", "4")
	checkHit(t, "Node (l, (v, r))", "Node (Node (Leaf, (1, Leaf)), (2, Leaf))", "Node (Leaf, (1, Leaf))", "2", "Leaf")
	checkHit(t, "A x", "A y", "y")
	// The same name, with and without a child.
	checkHit(t, "A", "A")
	checkHit(t, "A _", "A ()")
	checkNoHit(t, "A", "A ()")
	checkNoHit(t, "A _", "A")
	checkNoHit(t, "A x", "B ()")
	checkNoHit(t, "B x", "A ()")
	// There are no types.
	checkHit(t, "(x, 1) :: y", "(true, 1) :: 3", "true", "3")
	checkHit(t, "x :: true :: y", "1 :: true :: A B", "1", "A B")
	checkNoHit(t, "(1, x)", "(true, 1)")
	checkNoHit(t, "()", "((), ())")
	checkNoHit(t, "(x, y)", "x :: y")
	checkNoHit(t, "x :: y", "(1, 2)")
}

// TestHitBadArguments gives Hit an invalid pattern or value: the result is nil
// and false even for a wildcard.
func TestHitBadArguments(t *testing.T) {
	wild, unit := pnode(impl.PWild, 0, ""), dnode(impl.PUnit, 0, "")
	pats := [][]impl.PNode{
		nil, {}, {pnode(0, 0, "")}, {pnode(7, 0, "")}, {pnode(impl.PWild, 1, "")}, {pnode(impl.PWild, 0, "x")}, {pnode(impl.PWild, 0, "", 1), wild}, {wild, wild},
		{pnode(impl.PVar, 0, "")}, {pnode(impl.PVar, 0, "X")}, {pnode(impl.PVar, 0, "let")}, {pnode(impl.PVar, 1, "x")}, {pnode(impl.PInt, impl.MinInt, "")}, {pnode(impl.PInt, math.MaxInt, "")},
		{pnode(impl.PCon, 0, "a")}, {pnode(impl.PCon, 0, "")}, {pnode(impl.PCon, 0, "::")}, {pnode(impl.PCon, 0, "::", 1), wild}, {pnode(impl.PCon, 0, "true", 1), wild},
		{pnode(impl.PPair, 0, "", 1, 2), pnode(impl.PVar, 0, "x"), pnode(impl.PVar, 0, "x")}, {pnode(impl.PPair, 0, "", 2, 1), wild, wild}, {pnode(impl.PPair, 0, "", 1, 1), wild},
		{pnode(impl.PPair, 0, "", 1, 3), wild, wild}, {pnode(impl.PPair, 0, "", 0, 0)}, {pnode(impl.PPair, 0, "", -1, math.MaxInt), wild, wild}, {pnode(impl.PUnit, 0, "", 0)},
		widePat(300, wild).Nodes,
	}
	values := [][]impl.DNode{
		nil, {}, {dnode(0, 0, "")}, {dnode(impl.PWild, 0, "")}, {dnode(impl.PVar, 1, "x")}, {dnode(impl.PVar, 0, "x", 1), unit}, {dnode(impl.PInt, impl.MaxInt+1, "")}, {dnode(impl.PInt, 0, "x")},
		{dnode(impl.PCon, 0, "a")}, {dnode(impl.PCon, 0, "::", 1), unit}, {dnode(impl.PCon, 0, "[]", 1), unit}, {unit, unit}, {dnode(impl.PUnit, 0, "", 1), unit}, {dnode(impl.PUnit, 0, "", 0)},
		{dnode(impl.PPair, 0, "", 2, 1), unit, unit}, {dnode(impl.PPair, 0, "", 1, 3), unit, unit}, {dnode(impl.PPair, 0, "", 1, 1), unit}, {dnode(impl.PPair, 0, "", 0, 0)},
		{dnode(impl.PPair, 0, "", 1, 2), unit, dnode(impl.PWild, 0, "")}, chainData(601),
	}
	check := func(q impl.Pat, d impl.Data) {
		t.Helper()
		if got, hit := impl.Hit(q, d); hit || len(got) > 0 {
			t.Errorf("Hit is %v and %v for %v and %v", got, hit, brief(fmt.Sprint(q)), brief(fmt.Sprint(d)))
		}
	}
	for _, nodes := range pats {
		for _, value := range []string{"()", "1", "x", "A", "true :: []", "((), ())"} {
			check(impl.Pat{Nodes: nodes}, dataOf(t, value))
		}
		for _, bad := range values {
			check(impl.Pat{Nodes: nodes}, impl.Data{Nodes: bad})
		}
	}
	for _, bad := range values {
		for _, pat := range []string{"_", "x", "(_, _)", "(x, _)", "()", "1", "A x", "x :: _"} {
			check(patOf(t, pat), impl.Data{Nodes: bad})
		}
	}
}

// TestHitLarge has the largest patterns and values.
func TestHitLarge(t *testing.T) {
	chain := impl.Data{Nodes: chainData(impl.MaxNodes)}
	pat := impl.Pat{}
	for i, n := range chain.Nodes {
		pat.Nodes = append(pat.Nodes, pnode(n.Kind, n.N, n.S, n.Kids...))
		if i == impl.MaxNodes-1 {
			pat.Nodes[i] = pnode(impl.PVar, 0, "x")
		}
	}
	if got, hit := hitBy(t, pat, chain); !hit || len(got) != 1 || got[0].Nodes[0].N != impl.MinInt {
		t.Errorf("Hit of a chain is %v and %v", got, hit)
	}
	pat.Nodes[impl.MaxNodes-1] = pnode(impl.PInt, 1, "")
	if got, hit := hitBy(t, pat, chain); hit || len(got) > 0 {
		t.Errorf("Hit of a chain is %v and %v", got, hit)
	}
	wide := impl.Data{Nodes: wideData(299)}
	names := impl.Pat{}
	for i, n := range wide.Nodes {
		names.Nodes = append(names.Nodes, pnode(n.Kind, 0, "", n.Kids...))
		if n.Kind != impl.PPair {
			names.Nodes[i] = pnode(impl.PVar, 0, "v"+impl.NumText(i))
			wide.Nodes[i] = dnode(impl.PInt, i, "")
		}
	}
	got, hit := hitBy(t, names, wide)
	if !hit || len(got) != 300 {
		t.Fatalf("%d of 300 names are bound", len(got))
	}
	for i, d := range got {
		if want := min(2*i+1, 598); d.Nodes[0].N != want {
			t.Fatalf("name %d is bound to %d, not to %d", i, d.Nodes[0].N, want)
		}
	}
	if got, hit := hitBy(t, patOf(t, "(x, y)"), wide); !hit || len(got[1].Nodes) != 597 {
		t.Errorf("the second component has %d nodes", len(got[1].Nodes))
	}
}

// openedData replaces parts of a value by names and wildcards, and returns what
// the names stand for.
func (g *lot) openedData(d impl.Data, at int, names *int) (*patDraft, []impl.Data) {
	n := d.Nodes[at]
	name := n.Kind == impl.PVar || n.N == impl.MinInt
	switch g.next(5) {
	case 0:
		return &patDraft{PNode: pnode(impl.PWild, 0, "")}, nil
	case 1:
		name = true
	}
	if name {
		*names++
		return &patDraft{PNode: pnode(impl.PVar, 0, "v"+impl.NumText(*names))}, []impl.Data{copiedPart(d, at)}
	}
	q := &patDraft{PNode: pnode(n.Kind, n.N, n.S)}
	bound := []impl.Data{}
	for _, kid := range n.Kids {
		part, more := g.openedKid(n, d, kid, names)
		q.kids = append(q.kids, part)
		bound = append(bound, more...)
	}
	return q, bound
}

// openedKid keeps the pair of a ::.
func (g *lot) openedKid(parent impl.DNode, d impl.Data, kid int, names *int) (*patDraft, []impl.Data) {
	for {
		before := *names
		part, bound := g.openedData(d, kid, names)
		if parent.S != "::" || part.Kind == impl.PPair {
			return part, bound
		}
		*names = before
	}
}

// randomData is a value with strings and all numbers.
func (g *lot) randomData(size int) impl.Data {
	names := 0
	d := dataFrom(g.pat(size, &names).nodes(nil))
	for i, n := range d.Nodes {
		switch {
		case n.Kind == impl.PWild:
			d.Nodes[i] = dnode(impl.PInt, impl.MinInt, "")
		case n.Kind == impl.PVar:
			d.Nodes[i].S = g.someText()
		}
	}
	return d
}

// changedData has another leaf, or another name of a constructor.
func (g *lot) changedData(d impl.Data) impl.Data {
	nodes := moveData(d.Nodes, 0)
	n := &nodes[g.next(len(nodes))]
	switch {
	case len(n.Kids) == 0:
		*n = g.randomData(1).Nodes[0]
	case impl.ConOk(n.S):
		n.S = g.con()
	}
	return impl.Data{Nodes: nodes}
}

// TestHitRandom opens random values to patterns, which match them and bind
// their names to what they replace; changed values are matched or not as
// secondHit says.
func TestHitRandom(t *testing.T) {
	counts, values := map[bool]int{}, 0
	for seed := range uint32(20000) {
		g := &lot{seed: seed}
		d := g.randomData(1 + g.next(14))
		names := 0
		draft, want := g.openedData(d, 0, &names)
		q := impl.Pat{Nodes: draft.nodes(nil)}
		got, hit := hitBy(t, q, d)
		if !hit || !slices.EqualFunc(got, want, sameData) || len(got) != names {
			t.Fatalf("Hit is %v and %v for %s and %v", got, hit, impl.PrintPat(q), d)
		}
		values += len(got)
		other := g.changedData(d)
		got, hit = hitBy(t, q, other)
		if hit && len(got) != names {
			t.Fatalf("%d of %d names are bound", len(got), names)
		}
		// With wildcards in place of its names, a pattern matches the same
		// values, and binds nothing.
		if got, again := hitBy(t, withoutNames(q), other); again != hit || len(got) > 0 {
			t.Fatalf("without names, Hit is %v and %v, not %v, for %s", got, again, hit, impl.PrintPat(q))
		}
		counts[hit]++
	}
	if counts[true] < 10000 || counts[false] < 1000 || values < 10000 {
		t.Errorf("the counts are %v, there were %d values", counts, values)
	}
}

// withoutNames has wildcards in place of the names of a pattern.
func withoutNames(q impl.Pat) impl.Pat {
	nodes := slices.Clone(q.Nodes)
	for i, n := range nodes {
		if n.Kind == impl.PVar {
			nodes[i] = pnode(impl.PWild, 0, "")
		}
	}
	return impl.Pat{Nodes: nodes}
}

// roomyData is a value whose slices all have something behind their ends.
func roomyData(d impl.Data) impl.Data {
	nodes := []impl.DNode{}
	for _, n := range d.Nodes {
		nodes = append(nodes, dnode(n.Kind, n.N, n.S, roomy(n.Kids, 86)...))
	}
	return impl.Data{Nodes: roomy(nodes, dnode(87, 0, ""))}
}

// wholeData is a copy of a value with what is behind the ends of its slices.
func wholeData(d impl.Data) []impl.DNode {
	nodes := slices.Clone(d.Nodes[:cap(d.Nodes)])
	for i, n := range nodes {
		nodes[i].Kids = slices.Clone(n.Kids[:cap(n.Kids)])
	}
	return nodes
}

// spoilData overwrites a value and what is behind the ends of its slices.
func spoilData(d impl.Data) {
	for i, n := range d.Nodes[:cap(d.Nodes)] {
		for j := range n.Kids[:cap(n.Kids)] {
			n.Kids[:cap(n.Kids)][j] = 88
		}
		d.Nodes[:cap(d.Nodes)][i] = dnode(89, 90, "spoilt")
	}
}

// TestHitLeavesItsArguments: nothing is changed, and a value in a result that
// is changed has no influence on anything else.
func TestHitLeavesItsArguments(t *testing.T) {
	pats := []string{"x", "(x, y)", "(x, (y, z))", "(_, z)", "(A x, (y, z))", "(A (x, y), z)", "x :: y", "_", "(x, 1)"}
	for _, pat := range pats {
		q := patOf(t, pat)
		d := roomyData(dataOf(t, "(A (1, text), ((2, 3) :: [], B (4, ())))"))
		p := roomyProgram(patProgram(q))
		before, pBefore := wholeData(d), stretched(p)
		first, hit := hitBy(t, p.Nodes[0].Pats[0], d)
		for i := range first {
			kept := []impl.Data{}
			for _, value := range first {
				kept = append(kept, impl.Data{Nodes: moveData(value.Nodes, 0)})
			}
			spoilData(first[i])
			for j := i + 1; j < len(first); j++ {
				if !sameData(first[j], kept[j]) {
					t.Errorf("value %d changes together with value %d for %s", j, i, pat)
				}
			}
		}
		if !reflect.DeepEqual(wholeData(d), before) || !reflect.DeepEqual(stretched(p), pBefore) {
			t.Errorf("an argument has changed: %s", pat)
		}
		if _, again := hitBy(t, q, d); again != hit || impl.DataOk(d) != true {
			t.Errorf("different answers for %s", pat)
		}
	}
}
