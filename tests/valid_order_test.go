package tests

import (
	"fmt"
	"math"
	"slices"
	"testing"

	"loop.example/g00395/impl"
)

// shapes are the lists of children of all trees of n nodes in preorder, from
// the index first on, where no node has more than two children.
func shapes(n int, first int) [][][]int {
	if n == 1 {
		return [][][]int{{nil}}
	}
	all := [][][]int{}
	for _, below := range shapes(n-1, first+1) {
		all = append(all, append([][]int{{first + 1}}, below...))
	}
	for left := 1; left < n-1; left++ {
		for _, a := range shapes(left, first+1) {
			for _, b := range shapes(n-1-left, first+1+left) {
				all = append(all, slices.Concat([][]int{{first + 1, first + 1 + left}}, a, b))
			}
		}
	}
	return all
}

// kidLists are all lists of at most two of these indices.
func kidLists(indices []int) [][]int {
	lists := [][]int{nil}
	for _, a := range indices {
		lists = append(lists, []int{a})
		for _, b := range indices {
			lists = append(lists, []int{a, b})
		}
	}
	return lists
}

// patWith has nodes with these children: PWild, PCon and PPair.
func patWith(kids [][]int) impl.Pat {
	q := impl.Pat{}
	for _, k := range kids {
		n := impl.PNode{Kind: []int{impl.PWild, impl.PCon, impl.PPair}[len(k)], Kids: k}
		if n.Kind == impl.PCon {
			n.S = "A"
		}
		q.Nodes = append(q.Nodes, n)
	}
	return q
}

// programWith has nodes with these children: EUnit, EGet and ESeq.
func programWith(kids [][]int) impl.Program {
	p := impl.Program{}
	for _, k := range kids {
		p.Nodes = append(p.Nodes, impl.Node{Kind: []int{impl.EUnit, impl.EGet, impl.ESeq}[len(k)], Kids: k})
	}
	return p
}

// dataWith has nodes with these children: PUnit, PCon and PPair.
func dataWith(kids [][]int) impl.Data {
	d := impl.Data{}
	for _, k := range kids {
		n := dnode([]int{impl.PUnit, impl.PCon, impl.PPair}[len(k)], 0, "", k...)
		if n.Kind == impl.PCon {
			n.S = "A"
		}
		d.Nodes = append(d.Nodes, n)
	}
	return d
}

// TestEveryOrder gives every node of a pattern, of a program and of a value
// every list of children: valid are those, and only those, that are trees in
// preorder.
func TestEveryOrder(t *testing.T) {
	for n := 1; n <= 4; n++ {
		valid := map[string]bool{}
		for _, kids := range shapes(n, 0) {
			valid[fmt.Sprint(kids)] = true
		}
		indices := []int{1, 2, 3}
		if n < 4 {
			indices = []int{-1, 0, 1, 2, 3}[:n+2]
		}
		found := 0
		lists := kidLists(indices)
		kids := make([][]int, n)
		var fill func(at int)
		fill = func(at int) {
			if at < n {
				for _, kids[at] = range lists {
					fill(at + 1)
				}
				return
			}
			want := valid[fmt.Sprint(kids)]
			if want {
				found++
			}
			checkOrder(t, kids, want)
		}
		fill(0)
		if found != len(valid) || found == 0 {
			t.Errorf("%d of %d trees of %d nodes were found", found, len(valid), n)
		}
	}
}

func checkOrder(t *testing.T, kids [][]int, want bool) {
	t.Helper()
	q, p, d := patWith(kids), programWith(kids), dataWith(kids)
	if impl.PatOk(q) != want || (impl.PrintPat(q) != "") != want {
		t.Fatalf("a pattern with the children %v: PatOk is %v, PrintPat is %q", kids, impl.PatOk(q), impl.PrintPat(q))
	}
	if impl.ProgramOk(p) != want || (impl.PrintProgram(p) != "") != want || impl.SameProgram(p, p) != want {
		t.Fatalf("a program with the children %v: ProgramOk is %v, PrintProgram is %q", kids, impl.ProgramOk(p), impl.PrintProgram(p))
	}
	if _, hit := impl.Hit(q, d); impl.DataOk(d) != want || hit != want {
		t.Fatalf("a value with the children %v: DataOk is %v, Hit is %v", kids, impl.DataOk(d), hit)
	}
}

func TestOrders(t *testing.T) {
	for _, o := range []struct {
		what string
		kids [][]int
		want bool
	}{
		{"preorder", [][]int{{1, 4}, {2, 3}, nil, nil, {5, 6}, nil, nil}, true},
		{"level by level", [][]int{{1, 2}, {3, 4}, {5, 6}, nil, nil, nil, nil}, false},
		{"children from the right", [][]int{{4, 1}, {2, 3}, nil, nil, {5, 6}, nil, nil}, false},
		{"the root at the end", [][]int{nil, nil, {0, 1}}, false},
		{"postorder", [][]int{nil, nil, {0, 1}, nil, {2, 3}}, false},
		{"a child of two nodes", [][]int{{1, 3}, {2}, nil, {2}}, false},
		{"a child twice", [][]int{{1, 1}, nil}, false},
		{"a child twice and one left over", [][]int{{1, 1}, nil, nil}, false},
		{"a node as its own child", [][]int{{0}}, false},
		{"a node as its own second child", [][]int{{1, 0}, nil}, false},
		{"the root as a child", [][]int{{1}, {0}}, false},
		{"an ancestor as a child", [][]int{{1}, {2}, {1}}, false},
		{"an index past the end", [][]int{{1}}, false},
		{"a second index past the end", [][]int{{1, 2}, nil}, false},
		{"an index past the end below", [][]int{{1, 2}, nil, {3}}, false},
		{"a node left over", [][]int{nil, nil}, false},
		{"a node left over behind", [][]int{{1}, nil, nil}, false},
		{"a node left over in between", [][]int{{2}, nil, nil}, false},
		{"a tree left over", [][]int{{1}, nil, {3, 4}, nil, nil}, false},
		{"a skipped node in a pair", [][]int{{1, 3}, nil, nil, nil}, false},
	} {
		t.Run(o.what, func(t *testing.T) { checkOrder(t, o.kids, o.want) })
	}
	for _, far := range append([]int{2, 3, 4, 599, 600}, farNumbers...) {
		checkOrder(t, [][]int{{far}, nil}, false)
		checkOrder(t, [][]int{{far, 2}, nil, nil}, false)
		if far != 2 {
			checkOrder(t, [][]int{{1, far}, nil, nil}, false)
		}
	}
	for _, wrap := range []int{math.MinInt + 1, math.MinInt + 2, 1<<32 + 1, 1<<32 + 2, 1<<62 + 1} {
		checkOrder(t, [][]int{{wrap}, nil}, false)
		checkOrder(t, [][]int{{1, wrap}, nil, nil}, false)
	}
}

// TestOrderOfArms: the bodies of a match follow each other, too.
func TestOrderOfArms(t *testing.T) {
	good := parsed(t, "match !a with 1 -> !b | 2 -> !c | 3 -> !d end")
	for _, kids := range [][]int{
		{1, 3, 7, 5}, {3, 1, 5, 7}, {1, 3, 5, 5}, {1, 3, 3, 7}, {1, 3, 5, 8}, {1, 3, 5, 9}, {1, 3, 5, 6}, {0, 3, 5, 7}, {2, 3, 5, 7}, {1, 4, 5, 7}, {-1, 3, 5, 7},
	} {
		bad := cloned(good)
		bad.Nodes[0].Kids = kids
		checkNoProgram(t, fmt.Sprint("a match with the children ", kids), bad, good)
	}
}

// cloned is a copy that shares no memory.
func cloned(p impl.Program) impl.Program {
	c := impl.Program{Types: slices.Clone(p.Types), Nodes: slices.Clone(p.Nodes)}
	for i, d := range c.Types {
		c.Types[i].Cons = slices.Clone(d.Cons)
		for j, k := range d.Cons {
			c.Types[i].Cons[j].Arg.Items = slices.Clone(k.Arg.Items)
		}
	}
	for i, n := range c.Nodes {
		c.Nodes[i].Kids = slices.Clone(n.Kids)
		c.Nodes[i].Pats = slices.Clone(n.Pats)
		for j, q := range n.Pats {
			c.Nodes[i].Pats[j].Nodes = slices.Clone(q.Nodes)
			for k, m := range q.Nodes {
				c.Nodes[i].Pats[j].Nodes[k].Kids = slices.Clone(m.Kids)
			}
		}
	}
	return c
}
