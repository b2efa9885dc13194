package tests

import (
	"math"
	"slices"
	"strings"
	"testing"

	"loop.example/g00395/impl"
)

// orderly reports whether lists of children are one tree in preorder. It
// keeps, for every node that is not finished, the children that are to come.
func orderly(kids [][]int) bool {
	due := [][]int{{0}}
	for at, list := range kids {
		for len(due) > 0 && len(due[len(due)-1]) == 0 {
			due = due[:len(due)-1]
		}
		if len(due) == 0 || due[len(due)-1][0] != at {
			return false
		}
		due[len(due)-1] = due[len(due)-1][1:]
		due = append(due, list)
	}
	for _, list := range due {
		if len(list) > 0 {
			return false
		}
	}
	return true
}

// makeup says what a kind of node has: the numbers of children, and what S is.
type makeup struct {
	counts []int
	s      func(string) bool
}

func isEmpty(s string) bool { return s == "" }

func anyText(string) bool { return true }

func exprMakeup(n impl.Node) makeup {
	one, two := []int{1}, []int{2}
	switch exprKindName(n.Kind) {
	case "int", "unit":
		return makeup{[]int{0}, isEmpty}
	case "str":
		return makeup{[]int{0}, anyText}
	case "var":
		return makeup{[]int{0}, impl.NameOk}
	case "con":
		return conMakeup(n.S)
	case "fun":
		return makeup{one, impl.NameOk}
	case "raise", "ref", "get":
		return makeup{one, isEmpty}
	case "let", "rec", "try":
		return makeup{two, impl.NameOk}
	case "prim":
		return makeup{two, isOperator}
	case "app", "pair", "set", "seq":
		return makeup{two, isEmpty}
	case "if":
		return makeup{[]int{3}, isEmpty}
	case "match":
		if len(n.Pats) > 0 {
			return makeup{[]int{len(n.Pats) + 1}, isEmpty}
		}
	}
	return makeup{nil, isEmpty}
}

func exprKindName(kind int) string {
	if kind < 1 || kind >= len(exprKinds) {
		return ""
	}
	return exprKinds[kind]
}

func conMakeup(s string) makeup {
	switch {
	case isLoneName(s):
		return makeup{[]int{0}, anyText}
	case s == "::":
		return makeup{[]int{1}, anyText}
	}
	return makeup{[]int{0, 1}, impl.ConOk}
}

func patMakeup(n impl.PNode) makeup {
	switch n.Kind {
	case impl.PWild, impl.PInt, impl.PUnit:
		return makeup{[]int{0}, isEmpty}
	case impl.PVar:
		return makeup{[]int{0}, impl.NameOk}
	case impl.PCon:
		return conMakeup(n.S)
	case impl.PPair:
		return makeup{[]int{2}, isEmpty}
	}
	return makeup{nil, isEmpty}
}

func patIsRight(q impl.Pat) bool {
	kids := [][]int{}
	names := []string{}
	for _, n := range q.Nodes {
		kids = append(kids, n.Kids)
		if m := patMakeup(n); !slices.Contains(m.counts, len(n.Kids)) || !m.s(n.S) {
			return false
		}
		if n.N < -impl.MaxInt || n.N > impl.MaxInt || n.N != 0 && n.Kind != impl.PInt {
			return false
		}
		if n.Kind == impl.PVar {
			if slices.Contains(names, n.S) {
				return false
			}
			names = append(names, n.S)
		}
	}
	if len(kids) < 1 || len(kids) > impl.MaxNodes || !orderly(kids) {
		return false
	}
	for _, n := range q.Nodes {
		if n.S == "::" && q.Nodes[n.Kids[0]].Kind != impl.PPair {
			return false
		}
	}
	return true
}

// tyIsRight counts the types that are to come.
func tyIsRight(ty impl.Ty, vars int) bool {
	due := 1
	for _, i := range ty.Items {
		arities := []int{0, 1, 2}
		switch {
		case i.Name == "":
			arities = arities[:1]
		case i.Name == "ref":
			arities = arities[1:2]
		case i.Name == "->" || i.Name == "*":
			arities = arities[2:]
		case !impl.NameOk(i.Name):
			return false
		}
		if !slices.Contains(arities, i.Arity) || i.Name != "" && i.Var != 0 || i.Var < 0 || i.Name == "" && i.Var >= vars || due == 0 {
			return false
		}
		due += i.Arity - 1
	}
	return due == 0 && len(ty.Items) <= impl.MaxItems
}

func typeIsRight(d impl.Type) bool {
	for _, c := range d.Cons {
		if !impl.ConOk(c.Name) || c.Has != tyIsRight(c.Arg, d.Params) || !c.Has && len(c.Arg.Items) > 0 {
			return false
		}
	}
	return impl.NameOk(d.Name) && slices.Contains([]int{0, 1, 2}, d.Params) && len(d.Cons) >= 1 && len(d.Cons) <= impl.MaxCons
}

func programIsRight(p impl.Program) bool {
	kids := [][]int{}
	for _, n := range p.Nodes {
		kids = append(kids, n.Kids)
		if m := exprMakeup(n); !slices.Contains(m.counts, len(n.Kids)) || !m.s(n.S) {
			return false
		}
		if n.At < 0 || n.N < 0 || n.N > impl.MaxInt || n.N != 0 && n.Kind != impl.EInt || len(n.Pats) > 0 && n.Kind != impl.EMatch {
			return false
		}
		for _, q := range n.Pats {
			if !patIsRight(q) {
				return false
			}
		}
	}
	for _, d := range p.Types {
		if !typeIsRight(d) {
			return false
		}
	}
	if len(kids) < 1 || len(kids) > impl.MaxNodes || len(p.Types) > impl.MaxTypes || !orderly(kids) {
		return false
	}
	for _, n := range p.Nodes {
		if n.Kind == impl.ERec && p.Nodes[n.Kids[0]].Kind != impl.EFun || n.Kind == impl.ECon && n.S == "::" && p.Nodes[n.Kids[0]].Kind != impl.EPair {
			return false
		}
	}
	return true
}

// someText is a name, an operator, a keyword or none of these.
func (g *lot) someText() string {
	return g.of("", "", "x", "y", "A", "B", "true", "[]", "::", "+", "<=", "-", "->", "*", "ref", "let", "list", "é", "abcdefghijklm", "Abcdefghijkl", "_", "t", "v_1", "x1")
}

func (g *lot) someInt() int {
	list := []int{0, 0, 1, 1, 2, 3, -1, 5, 9999, 10000, impl.MaxInt, -impl.MaxInt, impl.MaxInt + 1, impl.MinInt, math.MaxInt, math.MinInt}
	return list[g.next(len(list))]
}

// changedKids changes the list of children of a node of size nodes.
func (g *lot) changedKids(list []int, size int) []int {
	list = slices.Clone(list)
	switch g.next(4) {
	case 0:
		return append(list, g.next(size+2))
	case 1:
		if len(list) > 0 {
			return list[:len(list)-1]
		}
	case 2:
		if len(list) > 0 {
			list[g.next(len(list))] = []int{g.next(size + 1), g.someInt()}[g.next(2)]
		}
	default:
		slices.Reverse(list)
	}
	return list
}

// changePat changes one field of a pattern.
func (g *lot) changePat(q *impl.Pat) {
	if len(q.Nodes) == 0 || g.next(20) == 0 {
		q.Nodes = append(q.Nodes, impl.PNode{Kind: 1 + g.next(6)})
		return
	}
	n := &q.Nodes[g.next(len(q.Nodes))]
	switch g.next(4) {
	case 0:
		n.Kind = g.next(8)
	case 1:
		n.N = g.someInt()
	case 2:
		n.S = g.someText()
	default:
		n.Kids = g.changedKids(n.Kids, len(q.Nodes))
	}
}

// changeTy changes one field of a type, or adds or removes an item.
func (g *lot) changeTy(ty *impl.Ty) {
	if len(ty.Items) == 0 || g.next(10) == 0 {
		ty.Items = append(ty.Items, tyVar(g.next(3)))
		return
	}
	i := &ty.Items[g.next(len(ty.Items))]
	switch g.next(5) {
	case 0:
		i.Var = g.someInt()
	case 1, 2:
		i.Name = g.someText()
	case 3:
		i.Arity = g.next(4) - g.next(2)
	default:
		ty.Items = ty.Items[:len(ty.Items)-1]
	}
}

func (g *lot) changeType(d *impl.Type) {
	c := &d.Cons[g.next(len(d.Cons))]
	switch g.next(8) {
	case 0:
		d.Name = g.someText()
	case 1:
		d.Params = g.next(4) - g.next(2)
	case 2:
		d.Cons = append(d.Cons, d.Cons...)
	case 3:
		c.Name = g.someText()
	case 4:
		c.Has = !c.Has
	case 5:
		d.Cons = d.Cons[1:]
	default:
		g.changeTy(&c.Arg)
	}
}

// changeProgram changes one thing in a program.
func (g *lot) changeProgram(p *impl.Program) {
	n := &p.Nodes[g.next(len(p.Nodes))]
	switch g.next(12) {
	case 0, 1:
		n.Kind = g.next(21)
	case 2:
		n.N = g.someInt()
	case 3, 4:
		n.S = g.someText()
	case 5:
		n.Kids = g.changedKids(n.Kids, len(p.Nodes))
	case 6:
		n.At = g.someInt()
	case 7:
		other := p.Nodes[g.next(len(p.Nodes))]
		n.Kind, n.S, n.N = other.Kind, other.S, other.N
	case 8:
		p.Nodes = append(p.Nodes, impl.Node{Kind: impl.EUnit})
	case 9:
		if len(n.Pats) > 0 {
			n.Pats = n.Pats[1:]
		}
	case 10:
		if len(n.Pats) > 0 {
			g.changePat(&n.Pats[g.next(len(n.Pats))])
		}
	default:
		if len(p.Types) > 0 {
			i := g.next(len(p.Types))
			if len(p.Types[i].Cons) > 0 {
				g.changeType(&p.Types[i])
			}
		}
	}
}

// checkAgainstRules compares the functions with the rules written above. good
// is a valid program.
func checkAgainstRules(t *testing.T, p impl.Program, good impl.Program) bool {
	t.Helper()
	want := programIsRight(p)
	text := impl.PrintProgram(p)
	if impl.ProgramOk(p) != want || (text != "") != want || impl.SameProgram(p, p) != want {
		t.Fatalf("ProgramOk is %v, not %v, PrintProgram is %q for %+v", impl.ProgramOk(p), want, text, p)
	}
	same := want && withoutPlaces(shown(t, p)) == withoutPlaces(shown(t, good))
	if impl.SameProgram(p, good) != same || impl.SameProgram(good, p) != same {
		t.Fatalf("SameProgram is not %v for %s and %s", same, text, impl.PrintProgram(good))
	}
	for _, n := range p.Nodes {
		for _, q := range n.Pats {
			if right := patIsRight(q); impl.PatOk(q) != right || (impl.PrintPat(q) != "") != right {
				t.Fatalf("PatOk is %v, PrintPat is %q for %+v", impl.PatOk(q), impl.PrintPat(q), q)
			}
		}
	}
	for _, d := range p.Types {
		for _, c := range d.Cons {
			if right := tyIsRight(c.Arg, 10000); impl.TyOk(c.Arg) != right || (impl.PrintTy(c.Arg) != "") != right {
				t.Fatalf("TyOk is %v, PrintTy is %q for %+v", impl.TyOk(c.Arg), impl.PrintTy(c.Arg), c.Arg)
			}
		}
	}
	if want && len(text) <= impl.MaxText && strings.Count(text, "(") < impl.MaxDepth/2 {
		checkPrinted(t, p, text)
	}
	return want
}

// TestChangedNodes changes random programs, and compares the functions with
// the rules written above.
func TestChangedNodes(t *testing.T) {
	right, wrong := 0, 0
	for seed := range uint32(12000) {
		g := &lot{seed: seed}
		good := g.whole(g.expr(1 + g.next(25))).program()
		if !checkAgainstRules(t, good, good) {
			t.Fatalf("the program is not valid from the beginning: %+v", good)
		}
		p := cloned(good)
		for range 1 + g.next(2) {
			g.changeProgram(&p)
		}
		if checkAgainstRules(t, p, good) {
			right++
		} else {
			wrong++
		}
	}
	if right < 2000 || wrong < 2000 {
		t.Errorf("%d programs were valid, %d were not", right, wrong)
	}
}

// TestChangedTypesAndPatterns does the same with types and patterns alone.
func TestChangedTypesAndPatterns(t *testing.T) {
	counts := map[string]int{}
	for seed := range uint32(20000) {
		g := &lot{seed: seed}
		ty := tyOf(g.ty(g.next(12), g.next(3)).items(nil)...)
		names := 0
		q := impl.Pat{Nodes: g.pat(g.next(12), &names).nodes(nil)}
		for range 1 + g.next(2) {
			g.changeTy(&ty)
			g.changePat(&q)
		}
		tyRight, patRight := tyIsRight(ty, 10000), patIsRight(q)
		if impl.TyOk(ty) != tyRight || (impl.PrintTy(ty) != "") != tyRight {
			t.Fatalf("TyOk is %v, PrintTy is %q for %+v", impl.TyOk(ty), impl.PrintTy(ty), ty)
		}
		if impl.PatOk(q) != patRight || (impl.PrintPat(q) != "") != patRight {
			t.Fatalf("PatOk is %v, PrintPat is %q for %+v", impl.PatOk(q), impl.PrintPat(q), q)
		}
		if patRight {
			checkPrinted(t, patProgram(q), "(match () with "+impl.PrintPat(q)+" -> () end)")
		}
		counts[map[bool]string{true: "types", false: "no types"}[tyRight]]++
		counts[map[bool]string{true: "patterns", false: "no patterns"}[patRight]]++
	}
	for _, what := range []string{"types", "no types", "patterns", "no patterns"} {
		if counts[what] < 2000 {
			t.Errorf("the counts are %v", counts)
		}
	}
}
