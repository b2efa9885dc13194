package tests

import (
	"fmt"
	"math"
	"slices"
	"strings"
	"testing"

	"loop.example/g00395/impl"
)

// dnode is a node of a value.
func dnode(kind int, n int, s string, kids ...int) impl.DNode {
	return impl.DNode{Kind: kind, N: n, S: s, Kids: kids}
}

// dataFrom is the value with these nodes of a pattern: a name is a string.
func dataFrom(nodes []impl.PNode) impl.Data {
	d := impl.Data{}
	for _, n := range nodes {
		d.Nodes = append(d.Nodes, dnode(n.Kind, n.N, n.S, slices.Clone(n.Kids)...))
	}
	return d
}

// dataOf is the value that is written like a pattern, in which names stand for
// strings.
func dataOf(t *testing.T, text string) impl.Data {
	t.Helper()
	return dataFrom(patOf(t, text).Nodes)
}

// checkDataOk checks whether these nodes are a value, with Hit, too.
func checkDataOk(t *testing.T, what string, want bool, nodes ...impl.DNode) {
	t.Helper()
	d := impl.Data{Nodes: nodes}
	if got := impl.DataOk(d); got != want {
		t.Errorf("%s: DataOk is %v", what, got)
	}
	if _, hit := impl.Hit(patOf(t, "_"), d); hit != want {
		t.Errorf("%s: Hit of a wildcard is %v", what, hit)
	}
	if values, hit := impl.Hit(patOf(t, "x"), d); hit != want || (len(values) == 1) != want {
		t.Errorf("%s: Hit of a name is %v, with %d values", what, hit, len(values))
	}
}

func checkData(t *testing.T, what string, nodes ...impl.DNode) {
	t.Helper()
	checkDataOk(t, what, true, nodes...)
}

func checkNoData(t *testing.T, what string, nodes ...impl.DNode) {
	t.Helper()
	checkDataOk(t, what, false, nodes...)
}

func TestDataKinds(t *testing.T) {
	unit := dnode(impl.PUnit, 0, "")
	checkData(t, "a number", dnode(impl.PInt, 7, ""))
	checkData(t, "unit", unit)
	checkData(t, "a string", dnode(impl.PVar, 0, "x"))
	checkData(t, "a constructor", dnode(impl.PCon, 0, "A"))
	checkData(t, "a constructor with a child", dnode(impl.PCon, 0, "A", 1), unit)
	checkData(t, "a pair", dnode(impl.PPair, 0, "", 1, 2), unit, unit)
	checkNoData(t, "no nodes")
	if impl.DataOk(impl.Data{Nodes: []impl.DNode{}}) || impl.DataOk(impl.Data{}) {
		t.Error("DataOk is true without nodes")
	}
	for _, kind := range append([]int{impl.PWild, 0, 7, 8, 10, 13, 19, 20}, farNumbers...) {
		checkNoData(t, "another kind", dnode(kind, 0, ""))
		checkNoData(t, "another kind with a name", dnode(kind, 0, "x"))
		checkNoData(t, "another kind of a child", dnode(impl.PCon, 0, "A", 1), dnode(kind, 0, ""))
		checkNoData(t, "another kind in a pair", dnode(impl.PPair, 0, "", 1, 2), unit, dnode(kind, 0, ""))
		checkNoData(t, "another kind with two children", dnode(kind, 0, "", 1, 2), unit, unit)
	}
}

// TestDataCounts gives every kind of node every number of children.
func TestDataCounts(t *testing.T) {
	for _, k := range []struct {
		kind   int
		s      string
		counts []int
	}{
		{impl.PVar, "x", []int{0}}, {impl.PVar, "", []int{0}}, {impl.PInt, "", []int{0}}, {impl.PUnit, "", []int{0}}, {impl.PPair, "", []int{2}},
		{impl.PCon, "A", []int{0, 1}}, {impl.PCon, "true", []int{0}}, {impl.PCon, "false", []int{0}}, {impl.PCon, "[]", []int{0}}, {impl.PCon, "::", []int{}},
	} {
		for count := range 5 {
			nodes := []impl.DNode{dnode(k.kind, 0, k.s)}
			for range count {
				nodes[0].Kids = append(nodes[0].Kids, len(nodes))
				nodes = append(nodes, dnode(impl.PUnit, 0, ""))
			}
			what := fmt.Sprint(patKinds[k.kind], " ", k.s, " with ", count, " children")
			checkDataOk(t, what, slices.Contains(k.counts, count), nodes...)
		}
	}
	unit := dnode(impl.PUnit, 0, "")
	pair := []impl.DNode{dnode(impl.PPair, 0, "", 2, 3), unit, unit}
	checkData(t, ":: with a pair", append([]impl.DNode{dnode(impl.PCon, 0, "::", 1)}, pair...)...)
	checkNoData(t, "[] with a pair", append([]impl.DNode{dnode(impl.PCon, 0, "[]", 1)}, pair...)...)
	checkNoData(t, "true with a pair", append([]impl.DNode{dnode(impl.PCon, 0, "true", 1)}, pair...)...)
	for _, other := range []impl.DNode{unit, dnode(impl.PVar, 0, "x"), dnode(impl.PInt, 1, ""), dnode(impl.PCon, 0, "A"), dnode(impl.PCon, 0, "[]")} {
		checkNoData(t, ":: without a pair", dnode(impl.PCon, 0, "::", 1), other)
		checkNoData(t, "an inner :: without a pair", dnode(impl.PCon, 0, "A", 1), dnode(impl.PCon, 0, "::", 2), other)
	}
	pair = []impl.DNode{dnode(impl.PPair, 0, "", 3, 4), unit, unit}
	checkData(t, "A with a constructor with a pair", append([]impl.DNode{dnode(impl.PCon, 0, "A", 1), dnode(impl.PCon, 0, "B", 2)}, pair...)...)
	checkData(t, "A with a ::", append([]impl.DNode{dnode(impl.PCon, 0, "A", 1), dnode(impl.PCon, 0, "::", 2)}, pair...)...)
	checkNoData(t, ":: with a constructor with a pair", append([]impl.DNode{dnode(impl.PCon, 0, "::", 1), dnode(impl.PCon, 0, "B", 2)}, pair...)...)
	checkNoData(t, ":: with a ::", append([]impl.DNode{dnode(impl.PCon, 0, "::", 1), dnode(impl.PCon, 0, "::", 2)}, pair...)...)
}

func TestDataFields(t *testing.T) {
	unit := dnode(impl.PUnit, 0, "")
	for _, n := range append([]int{1}, farNumbers...) {
		checkNoData(t, "a string with a number", dnode(impl.PVar, n, "x"))
		checkNoData(t, "an empty string with a number", dnode(impl.PVar, n, ""))
		checkNoData(t, "unit with a number", dnode(impl.PUnit, n, ""))
		checkNoData(t, "a constructor with a number", dnode(impl.PCon, n, "A"))
		checkNoData(t, "true with a number", dnode(impl.PCon, n, "true"))
		checkNoData(t, "a constructor with a child and a number", dnode(impl.PCon, n, "A", 1), unit)
		checkNoData(t, "a :: with a number", dnode(impl.PCon, n, "::", 1), dnode(impl.PPair, 0, "", 2, 3), unit, unit)
		checkNoData(t, "a pair with a number", dnode(impl.PPair, n, "", 1, 2), unit, unit)
		checkNoData(t, "a number in a child", dnode(impl.PCon, 0, "A", 1), dnode(impl.PUnit, n, ""))
	}
	for _, s := range []string{"x", "A", "true", "_", " ", "::", "\x00"} {
		checkNoData(t, "unit with a name", dnode(impl.PUnit, 0, s))
		checkNoData(t, "a number with a name", dnode(impl.PInt, 0, s))
		checkNoData(t, "another number with a name", dnode(impl.PInt, 1, s))
		checkNoData(t, "a pair with a name", dnode(impl.PPair, 0, s, 1, 2), unit, unit)
		checkNoData(t, "the pair of a :: with a name", dnode(impl.PCon, 0, "::", 1), dnode(impl.PPair, 0, s, 2, 3), unit, unit)
	}
}

// TestDataNumbers: unlike in a pattern, MinInt is permitted.
func TestDataNumbers(t *testing.T) {
	for _, n := range []int{0, 1, -1, 1 << 32, impl.MaxInt - 1, impl.MaxInt, -impl.MaxInt, impl.MinInt, impl.MinInt + 1} {
		checkData(t, "a number", dnode(impl.PInt, n, ""))
		checkData(t, "a number in a pair", dnode(impl.PPair, 0, "", 1, 2), dnode(impl.PInt, 1, ""), dnode(impl.PInt, n, ""))
	}
	for _, n := range []int{impl.MaxInt + 1, impl.MinInt - 1, math.MaxInt, math.MinInt} {
		checkNoData(t, "a number out of range", dnode(impl.PInt, n, ""))
		checkNoData(t, "a number out of range in a pair", dnode(impl.PPair, 0, "", 1, 2), dnode(impl.PInt, n, ""), dnode(impl.PInt, 0, ""))
	}
}

func TestDataNames(t *testing.T) {
	unit := dnode(impl.PUnit, 0, "")
	for _, s := range []string{"A", "A_b9", "Abcdefghijkl", "True"} {
		checkData(t, "the constructor "+s, dnode(impl.PCon, 0, s))
		checkData(t, "the constructor "+s+" with a child", dnode(impl.PCon, 0, s, 1), unit)
	}
	for _, s := range []string{"true", "false", "[]"} {
		checkData(t, "the constructor "+s, dnode(impl.PCon, 0, s))
		checkNoData(t, "the constructor "+s+" with a child", dnode(impl.PCon, 0, s, 1), unit)
	}
	for _, s := range badCons() {
		if s != "true" && s != "false" && s != "[]" {
			checkNoData(t, "the constructor "+s, dnode(impl.PCon, 0, s))
		}
		checkNoData(t, "the constructor "+s+" with a child", dnode(impl.PCon, 0, s, 1), unit)
	}
	checkNoData(t, "the constructor :: alone", dnode(impl.PCon, 0, "::"))
}

func TestDataStrings(t *testing.T) {
	texts := slices.Concat(badNames(), badCons(), []string{"x", "\x00\xff", "a\nb", "\"", "\\", "::", "true", strings.Repeat("long ", 10000)})
	for _, s := range texts {
		checkData(t, "the string "+brief(s), dnode(impl.PVar, 0, s))
		checkData(t, "the string "+brief(s)+" twice", dnode(impl.PPair, 0, "", 1, 2), dnode(impl.PVar, 0, s), dnode(impl.PVar, 0, s))
		checkNoData(t, "the string "+brief(s)+" with a child", dnode(impl.PVar, 0, s, 1), dnode(impl.PUnit, 0, ""))
	}
}

// chainData is a value of n nodes, each in another one.
func chainData(n int) []impl.DNode {
	nodes := []impl.DNode{}
	for len(nodes) < n-1 {
		nodes = append(nodes, dnode(impl.PCon, 0, "A", len(nodes)+1))
	}
	return append(nodes, dnode(impl.PInt, impl.MinInt, ""))
}

// wideData is a value of n pairs, each in the second component of another.
func wideData(n int) []impl.DNode {
	return dataFrom(widePat(n, pnode(impl.PUnit, 0, "")).Nodes).Nodes
}

func TestDataMaxNodes(t *testing.T) {
	for i, n := range chainData(impl.MaxNodes) {
		if i < impl.MaxNodes-1 && (n.Kind != impl.PCon || n.Kids[0] != i+1) {
			t.Fatal("the chain is broken")
		}
	}
	checkData(t, "MaxNodes nodes", chainData(impl.MaxNodes)...)
	checkNoData(t, "a node too many", chainData(impl.MaxNodes+1)...)
	checkNoData(t, "a million nodes", chainData(1000000)...)
	wide := wideData(299)
	for i, n := range wide {
		if n.Kind == impl.PWild {
			wide[i] = dnode(impl.PVar, 0, "text")
		}
	}
	checkData(t, "299 pairs", wide...)
	checkData(t, "MaxNodes nodes with pairs", append([]impl.DNode{dnode(impl.PCon, 0, "A", 1)}, moveData(wide, 1)...)...)
	checkNoData(t, "a node too many with pairs", slices.Concat([]impl.DNode{dnode(impl.PPair, 0, "", 1, 2), dnode(impl.PUnit, 0, "")}, moveData(wide, 2))...)
	checkNoData(t, "a million units", slices.Repeat([]impl.DNode{dnode(impl.PUnit, 0, "")}, 1000000)...)
	checkNoData(t, "a million children", dnode(impl.PPair, 0, "", slices.Repeat([]int{1}, 1000000)...), dnode(impl.PUnit, 0, ""))
}

// moveData are the nodes of a value as they are further behind.
func moveData(nodes []impl.DNode, by int) []impl.DNode {
	list := []impl.DNode{}
	for _, n := range nodes {
		kids := []int{}
		for _, kid := range n.Kids {
			kids = append(kids, kid+by)
		}
		list = append(list, dnode(n.Kind, n.N, n.S, kids...))
	}
	return list
}

// dataIsRight is DataOk with the rules of valid_random_test.go: a value is a
// pattern with strings, and without names and wildcards.
func dataIsRight(d impl.Data) bool {
	q := impl.Pat{}
	for _, n := range d.Nodes {
		switch {
		case n.Kind == impl.PWild:
			return false
		case n.Kind == impl.PInt && n.N == impl.MinInt:
			n.N = 0
		case n.Kind == impl.PVar:
			n.Kind, n.S = impl.PWild, ""
		}
		q.Nodes = append(q.Nodes, pnode(n.Kind, n.N, n.S, n.Kids...))
	}
	return patIsRight(q)
}

// TestChangedData changes random values, and compares DataOk with the rules.
func TestChangedData(t *testing.T) {
	right, wrong := 0, 0
	for seed := range uint32(30000) {
		g := &lot{seed: seed}
		names := 0
		q := impl.Pat{Nodes: g.pat(1+g.next(12), &names).nodes(nil)}
		for i, n := range q.Nodes {
			if n.Kind == impl.PWild {
				q.Nodes[i] = pnode(impl.PVar, 0, g.someText())
			}
		}
		if d := dataFrom(q.Nodes); !impl.DataOk(d) || !dataIsRight(d) {
			t.Fatalf("%+v is not valid from the beginning", d)
		}
		for range 1 + g.next(2) {
			g.changePat(&q)
		}
		d := dataFrom(q.Nodes)
		if impl.DataOk(d) != dataIsRight(d) {
			t.Fatalf("DataOk is %v for %+v", impl.DataOk(d), d)
		}
		if impl.DataOk(d) {
			right++
		} else {
			wrong++
		}
	}
	if right < 3000 || wrong < 3000 {
		t.Errorf("%d values were valid, %d were not", right, wrong)
	}
}
