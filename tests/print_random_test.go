package tests

import (
	"fmt"
	"strconv"
	"strings"
	"testing"

	"loop.example/g00395/impl"
)

// printed is a draft as chapter 5 prints it.
func (d *draft) printed() string {
	switch d.Kind {
	case impl.EInt:
		return strconv.Itoa(d.N)
	case impl.EStr:
		return impl.Quote(d.S)
	case impl.EVar:
		return d.S
	case impl.EUnit:
		return "()"
	case impl.ECon:
		return d.printedCon()
	case impl.ERec:
		f := d.kids[0]
		return "(let rec " + d.S + " " + f.S + " = " + f.kids[0].printed() + " in " + d.kids[1].printed() + ")"
	case impl.EMatch:
		arms := []string{}
		for i, q := range d.pats {
			arms = append(arms, q.printed()+" -> "+d.kids[i+1].printed())
		}
		return "(match " + d.kids[0].printed() + " with " + strings.Join(arms, " | ") + " end)"
	}
	k := []any{}
	for _, kid := range d.kids {
		k = append(k, kid.printed())
	}
	return fmt.Sprintf(d.layout(), k...)
}

// layout is the printed form with a place for every child.
func (d *draft) layout() string {
	switch d.Kind {
	case impl.EFun:
		return "(fun " + d.S + " -> %s)"
	case impl.EApp:
		if f := d.kids[0]; f.Kind == impl.ECon && len(f.kids) == 0 {
			return "((%s) %s)"
		}
		return "(%s %s)"
	case impl.ELet:
		return "(let " + d.S + " = %s in %s)"
	case impl.EIf:
		return "(if %s then %s else %s)"
	case impl.EPrim:
		return "(%s " + strings.ReplaceAll(d.S, "%", "%%") + " %s)"
	case impl.EPair:
		return "(%s, %s)"
	case impl.ERaise:
		return "(raise %s)"
	case impl.ETry:
		return "(try %s with " + d.S + " -> %s end)"
	case impl.ERef:
		return "(ref %s)"
	case impl.EGet:
		return "(! %s)"
	case impl.ESet:
		return "(%s := %s)"
	}
	return "(%s; %s)"
}

func (d *draft) printedCon() string {
	switch {
	case len(d.kids) == 0:
		return d.S
	case d.S == "::":
		pair := d.kids[0]
		return "(" + pair.kids[0].printed() + " :: " + pair.kids[1].printed() + ")"
	}
	return "(" + d.S + " " + d.kids[0].printed() + ")"
}

func (d *patDraft) printed() string {
	switch {
	case d.Kind == impl.PWild:
		return "_"
	case d.Kind == impl.PInt:
		return strconv.Itoa(d.N)
	case d.Kind == impl.PUnit:
		return "()"
	case d.Kind == impl.PPair:
		return "(" + d.kids[0].printed() + ", " + d.kids[1].printed() + ")"
	case len(d.kids) == 0:
		return d.S
	case d.S == "::":
		pair := d.kids[0]
		return "(" + pair.kids[0].printed() + " :: " + pair.kids[1].printed() + ")"
	}
	return "(" + d.S + " " + d.kids[0].printed() + ")"
}

func (d *tyDraft) printed() string {
	switch {
	case d.Name == "" && d.Var < 26:
		return "'" + string([]byte{byte('a' + d.Var)})
	case d.Name == "":
		return "'z" + strconv.Itoa(d.Var)
	case d.Arity == 0:
		return d.Name
	case d.Arity == 1:
		return "(" + d.kids[0].printed() + ") " + d.Name
	case d.Name == "->" || d.Name == "*":
		return "(" + d.kids[0].printed() + " " + d.Name + " " + d.kids[1].printed() + ")"
	}
	return "(" + d.kids[0].printed() + ", " + d.kids[1].printed() + ") " + d.Name
}

func (d *typeDraft) printed() string {
	cons := []string{}
	for i, c := range d.cons {
		if d.args[i] != nil {
			c += " of " + d.args[i].printed()
		}
		cons = append(cons, c)
	}
	head := []string{"", "'a ", "('a, 'b) "}[len(d.vars)]
	return "type " + head + d.name + " = " + strings.Join(cons, " | ") + "; "
}

// depth is the greatest number of others of its kind in which an expr of the
// printed draft is nested, where the draft stands in an expr that is nested in
// so many.
func (d *draft) depth(in int) int {
	most := in
	at := func(k *draft, in int) { most = max(most, k.depth(in)) }
	switch d.Kind {
	case impl.ELet, impl.EIf, impl.EMatch, impl.ETry, impl.EFun:
		for _, k := range d.kids {
			at(k, in+2)
		}
	case impl.ERec:
		at(d.kids[0].kids[0], in+2)
		at(d.kids[1], in+2)
	case impl.ESeq:
		at(d.kids[0], in+1)
		at(d.kids[1], in+2)
	case impl.ECon:
		for _, k := range d.kids {
			if d.S == "::" {
				at(k.kids[0], in+1)
				k = k.kids[1]
			}
			at(k, in+1)
		}
	case impl.EApp:
		if f := d.kids[0]; f.Kind == impl.ECon && len(f.kids) == 0 {
			most = in + 2
		}
		fallthrough
	default:
		for _, k := range d.kids {
			at(k, in+1)
		}
	}
	return most
}

// patDepth is the greatest depth of a pat in one of the patterns.
func (d *draft) patDepth() int {
	most := 0
	for _, q := range d.pats {
		most = max(most, q.depth(0))
	}
	for _, k := range d.kids {
		most = max(most, k.patDepth())
	}
	return most
}

func (d *patDraft) depth(in int) int {
	switch {
	case len(d.kids) == 0:
		return in
	case d.S == "::":
		return max(d.kids[0].kids[0].depth(in+1), d.kids[0].kids[1].depth(in+2))
	}
	most := 0
	for _, k := range d.kids {
		most = max(most, k.depth(in+1))
	}
	return most
}

func (d *tyDraft) depth(in int) int {
	most := in
	for i, k := range d.kids {
		if d.Name == "->" {
			most = max(most, k.depth(in+1+i))
		} else {
			most = max(most, k.depth(in+1))
		}
	}
	return most
}

// chain nests an expression in n random forms.
func (g *lot) chain(n int) *draft {
	d := g.expr(g.next(5))
	for range n {
		around := g.expr(2 + g.next(5))
		for around.Kind == impl.EMatch && g.next(4) > 0 {
			around = g.expr(2 + g.next(5))
		}
		hole := around
		for len(hole.kids) > 0 {
			hole = hole.kids[g.next(len(hole.kids))]
		}
		*hole, d = *d, around
	}
	return d
}

// patChain nests a pattern in n random forms.
func (g *lot) patChain(n int) *patDraft {
	d := &patDraft{PNode: impl.PNode{Kind: impl.PVar, S: "x"}}
	for range n {
		none := 0
		beside := g.pat(0, &none)
		for beside.Kind == impl.PVar {
			beside = g.pat(0, &none)
		}
		kids := []*patDraft{d, beside}
		if g.next(2) == 0 {
			kids = []*patDraft{beside, d}
		}
		pair := &patDraft{PNode: impl.PNode{Kind: impl.PPair}, kids: kids}
		switch g.next(3) {
		case 0:
			d = pair
		case 1:
			d = &patDraft{PNode: impl.PNode{Kind: impl.PCon, S: "::"}, kids: []*patDraft{pair}}
		default:
			d = &patDraft{PNode: impl.PNode{Kind: impl.PCon, S: g.con()}, kids: []*patDraft{d}}
		}
	}
	return d
}

// tyChain nests a type in n random forms.
func (g *lot) tyChain(n int, vars int) *tyDraft {
	d := g.ty(0, vars)
	for range n {
		kids := []*tyDraft{d, g.ty(0, vars)}
		if g.next(2) == 0 {
			kids[0], kids[1] = kids[1], kids[0]
		}
		name := g.of("->", "*", "t", "list", "ref")
		if name == "list" || name == "ref" {
			kids = []*tyDraft{d}
		}
		d = &tyDraft{TyItem: impl.TyItem{Name: name, Arity: len(kids)}, kids: kids}
	}
	return d
}

// whole is a random program before it is a list of nodes.
type whole struct {
	types []*typeDraft
	expr  *draft
}

func (g *lot) whole(expr *draft) whole {
	h := whole{expr: expr}
	for range g.next(3) {
		h.types = append(h.types, g.typeDecl())
	}
	return h
}

func (h whole) program() impl.Program {
	p := impl.Program{Nodes: h.expr.nodes(nil)}
	for _, d := range h.types {
		p.Types = append(p.Types, d.made())
	}
	return p
}

func (h whole) printed() string {
	text := ""
	for _, d := range h.types {
		text += d.printed()
	}
	return text + h.expr.printed()
}

func (h whole) tyDepth() int {
	most := 0
	for _, d := range h.types {
		for _, a := range d.args {
			if a != nil {
				most = max(most, a.depth(0))
			}
		}
	}
	return most
}

// checkWhole checks that a program is printed as expected and is parsed as
// itself, or rejected with the code that its depth and length require, which
// it returns. It returns -1 for a program with more than MaxNodes nodes.
func checkWhole(t *testing.T, h whole) int {
	t.Helper()
	p, want := h.program(), h.printed()
	if len(p.Nodes) > impl.MaxNodes {
		return -1
	}
	if !impl.ProgramOk(p) {
		t.Fatalf("ProgramOk is false for %s", brief(want))
	}
	if got := impl.PrintProgram(p); got != want {
		t.Fatalf("PrintProgram is\n%s, not\n%s", got, want)
	}
	code := 0
	switch {
	case len(want) > impl.MaxText:
		code = 1
	case max(h.expr.depth(0), h.expr.patDepth(), h.tyDepth()) > impl.MaxDepth:
		code = 9
	}
	if code == 0 {
		checkPrinted(t, p, want)
	} else if _, c, _ := impl.Parse(want); c != code {
		t.Fatalf("code %d, not %d, for %s", c, code, want)
	}
	return code
}

func TestPrintRandomPrograms(t *testing.T) {
	counts := map[int]int{}
	for seed := range uint32(4000) {
		g := &lot{seed: seed}
		counts[checkWhole(t, g.whole(g.expr(1+g.next(60))))]++
	}
	if counts[0] < 3000 {
		t.Errorf("the codes are %v", counts)
	}
}

// TestPrintRandomDepths prints programs with nested forms, patterns or types
// that are close to MaxDepth, or close to MaxText.
func TestPrintRandomDepths(t *testing.T) {
	counts := map[int]int{}
	for seed := range uint32(1500) {
		g := &lot{seed: seed}
		h := whole{}
		switch g.next(4) {
		case 0:
			h = g.whole(g.expr(400 + g.next(200)))
		case 1:
			h = g.whole(g.chain(15 + g.next(50)))
		case 2:
			h = g.whole(&draft{Node: impl.Node{Kind: impl.EMatch}, kids: []*draft{g.leaf(), g.leaf()}, pats: []*patDraft{g.patChain(60 + g.next(50))}})
		default:
			h = g.whole(g.leaf())
			h.types = append(h.types, &typeDraft{vars: []string{"'a"}, name: "t", cons: []string{"A"}, args: []*tyDraft{g.tyChain(60+g.next(39), 1)}})
		}
		counts[checkWhole(t, h)]++
	}
	if counts[0] < 200 || counts[1] < 20 || counts[9] < 200 {
		t.Errorf("the codes are %v", counts)
	}
}

func TestPrintRandomTypes(t *testing.T) {
	for seed := range uint32(3000) {
		g := &lot{seed: seed}
		d := g.ty(g.next(40), []int{0, 2, 30, 10000}[g.next(4)])
		items := d.items(nil)
		checkPrintTy(t, d.printed(), items...)
		p := impl.Program{Types: []impl.Type{{Name: "t", Params: 2, Cons: []impl.Con{{Name: "A", Has: true, Arg: tyOf(items...)}}}}, Nodes: unitNodes()}
		most := 0
		for _, i := range items {
			most = max(most, i.Var)
		}
		if most < 2 {
			checkPrinted(t, p, "type ('a, 'b) t = A of "+d.printed()+"; ()")
		} else if impl.ProgramOk(p) {
			t.Errorf("ProgramOk is true with %s", d.printed())
		}
	}
}

func unitNodes() []impl.Node { return []impl.Node{{Kind: impl.EUnit}} }
