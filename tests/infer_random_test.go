package tests

import (
	"slices"
	"strconv"
	"strings"
	"testing"

	"loop.example/g00395/impl"
)

// smallExprs are all expressions of so many nodes, of most forms and with two
// names. A form may add a node that has no choice.
func smallExprs(most int) [][]*draft {
	leaf := func(kind int, s string) *draft { return node(kind, s) }
	bySize := [][]*draft{nil, {leaf(impl.EVar, "x"), leaf(impl.EVar, "f"), leaf(impl.EInt, ""), leaf(impl.ECon, "[]")}}
	for size := 2; size <= most; size++ {
		list := []*draft{}
		for _, a := range bySize[size-1] {
			list = append(list, node(impl.EFun, "x", a), node(impl.EFun, "f", a), node(impl.ERef, "", a), node(impl.EGet, "", a), node(impl.ERaise, "", a))
		}
		for first := 1; first < size-1; first++ {
			for _, a := range bySize[first] {
				for _, b := range bySize[size-1-first] {
					list = append(list, twoParts(a, b)...)
				}
			}
		}
		bySize = append(bySize, list)
	}
	return bySize
}

// twoParts are the forms with two children.
func twoParts(a *draft, b *draft) []*draft {
	name := &patDraft{PNode: impl.PNode{Kind: impl.PVar, S: "x"}}
	other := &patDraft{PNode: impl.PNode{Kind: impl.PVar, S: "f"}}
	pair := &patDraft{PNode: impl.PNode{Kind: impl.PPair}, kids: []*patDraft{name, other}}
	cons := &patDraft{PNode: impl.PNode{Kind: impl.PCon, S: "::"}, kids: []*patDraft{pair}}
	match := func(q *patDraft) *draft {
		return &draft{Node: impl.Node{Kind: impl.EMatch}, kids: []*draft{a, b}, pats: []*patDraft{q}}
	}
	return []*draft{
		node(impl.EApp, "", a, b), node(impl.ELet, "x", a, b), node(impl.ELet, "f", a, b), node(impl.ERec, "f", node(impl.EFun, "x", a), b),
		node(impl.EPair, "", a, b), node(impl.ESet, "", a, b), node(impl.ESeq, "", a, b), node(impl.EPrim, "+", a, b),
		node(impl.ECon, "::", node(impl.EPair, "", a, b)), node(impl.ETry, "x", a, b), match(pair), match(cons),
		node(impl.EIf, "", node(impl.ECon, "true"), a, b),
	}
}

// TestInferAllSmallPrograms compares Infer with the second typer for all small
// expressions with a parameter x and a generic function f.
func TestInferAllSmallPrograms(t *testing.T) {
	counts := map[int]int{}
	for _, list := range smallExprs(5) {
		for _, d := range list {
			p := impl.Program{Nodes: node(impl.EFun, "x", node(impl.ELet, "f", node(impl.EFun, "x", variable("x")), d)).nodes(nil)}
			for i := range p.Nodes {
				p.Nodes[i].At = i
			}
			_, code, _ := inferred(t, p)
			counts[code]++
			if t.Failed() {
				return
			}
		}
	}
	if counts[0] < 10000 || counts[24] < 10000 || counts[25] < 1000 {
		t.Errorf("the codes occur so many times: %v", counts)
	}
}

// maker writes random expressions of given types. One expression of so many is
// a mistake, or none if the number is 0. In the same way, one of so many calls
// tell with the next number ahead of everything else.
type maker struct {
	lot
	env      []made
	vars     int
	mistakes int
	tells    int
	told     int
}

// made is a binding, whose type is a draft. Variables from a number on are
// generic.
type made struct {
	name string
	ty   *tyDraft
	from int
}

const makerTypes = "type 'a o = N | S of 'a; type ('a, 'b) e = L of 'a | R of 'b; type t = A | B of int | C of t * (t o); type 'a tree = Leaf | Tree of 'a * ('a tree * 'a tree); "

// makerCons are the constructors of these types and the predefined ones, with
// the text of their arguments.
var makerCons = map[string][][2]string{
	"o": {{"N", ""}, {"S", "0"}}, "e": {{"L", "0"}, {"R", "1"}}, "t": {{"A", ""}, {"B", "int"}, {"C", "* t/0 o/1 t/0"}},
	"tree": {{"Leaf", ""}, {"Tree", "* 0 * tree/1 0 tree/1 0"}}, "bool": {{"true", ""}, {"false", ""}}, "list": {{"[]", ""}, {"::", "* 0 list 0"}},
}

func named(name string, kids ...*tyDraft) *tyDraft {
	return &tyDraft{TyItem: tyCon(name, len(kids)), kids: kids}
}

// draftOf is the draft of the first of the types, with its variables replaced.
func draftOf(items []impl.TyItem, args []*tyDraft) *tyDraft {
	if items[0].Name == "" {
		return args[items[0].Var]
	}
	first, rest := items[0], items[1:]
	d := &tyDraft{TyItem: first}
	for range first.Arity {
		var part []impl.TyItem
		part, rest = cut(rest)
		d.kids = append(d.kids, draftOf(part, args))
	}
	return d
}

// shape is a random type of variables that are bound, and of constructors.
func (m *maker) shape(size int) *tyDraft {
	if size < 2 {
		if m.vars > 0 && m.next(4) == 0 {
			return &tyDraft{TyItem: tyVar(m.next(m.vars))}
		}
		return named(m.of("int", "int", "bool", "string", "unit", "t"))
	}
	switch m.next(6) {
	case 0, 1:
		return named(m.of("list", "ref", "o", "tree"), m.shape(size-1))
	case 2:
		return named("e", m.shape(size/2), m.shape(size/2))
	}
	return named(m.of("*", "->"), m.shape(size/2), m.shape(size/2))
}

// within calls a function with more bindings.
func (m *maker) within(write func() string, more ...made) string {
	before := m.env
	m.env = slices.Concat(before, more)
	defer func() { m.env = before }()
	return write()
}

func (m *maker) name() string { return m.of("x", "y", "z", "f", "g", "print", "size") }

// fits reports whether a type is an instance of that of a binding, and finds
// what its generic variables stand for.
func (k made) fits(general *tyDraft, special *tyDraft, found map[int]*tyDraft) bool {
	if general.Name == "" && general.Var >= k.from {
		if found[general.Var] == nil {
			found[general.Var] = special
		}
		return slices.Equal(found[general.Var].items(nil), special.items(nil))
	}
	if general.TyItem != special.TyItem {
		return false
	}
	for i := range general.kids {
		if !k.fits(general.kids[i], special.kids[i], found) {
			return false
		}
	}
	return true
}

// use writes a visible name, with arguments if it has to be called, that has a
// type. It returns an empty text if there is none.
func (m *maker) use(want *tyDraft, size int) string {
	texts := []string{}
	for i, k := range m.env {
		hidden := slices.ContainsFunc(m.env[i+1:], func(other made) bool { return other.name == k.name })
		if text := m.called(k, k.ty, want, size); !hidden && text != "" {
			texts = append(texts, text)
		}
	}
	if len(texts) == 0 {
		return ""
	}
	return m.of(texts...)
}

func (m *maker) called(k made, ty *tyDraft, want *tyDraft, size int) string {
	found := map[int]*tyDraft{}
	if k.fits(ty, want, found) {
		return k.name
	}
	found = map[int]*tyDraft{}
	if ty.Name != "->" || size < 2 || !k.fits(ty.kids[1], want, found) {
		return ""
	}
	args := make([]*tyDraft, max(m.vars, 60))
	for i := range args {
		args[i] = &tyDraft{TyItem: tyVar(i)}
		if i >= k.from && found[i] != nil {
			args[i] = found[i]
		} else if i >= k.from {
			args[i] = named("int")
		}
	}
	return "(" + k.name + " " + m.expr(draftOf(ty.kids[0].items(nil), args), size/2) + ")"
}

func (m *maker) expr(want *tyDraft, size int) string {
	if m.tells > 0 && m.next(m.tells) == 0 {
		m.told++
		return "(tell " + strconv.Itoa(m.told) + "; " + m.untold(want, size) + ")"
	}
	return m.untold(want, size)
}

func (m *maker) untold(want *tyDraft, size int) string {
	if m.mistakes > 0 && m.next(m.mistakes) == 0 {
		return m.wrong(want, size)
	}
	if m.next(3) == 0 || want.Name == "" || size < 1 && m.next(2) == 0 {
		if text := m.use(want, size); text != "" {
			return text
		}
	}
	if size > 1 && m.next(3) > 0 {
		return m.form(want, size-1)
	}
	return m.simple(want, size-1)
}

func (m *maker) wrong(want *tyDraft, size int) string {
	switch m.next(8) {
	case 0:
		return m.of("q", "(Q 1)", "Q", "(S)", "(N 1)", "(match 1 with Q -> 1 end)", "(match 1 with N _ -> 1 | S -> 2 end)")
	case 1:
		return m.name()
	case 2:
		return "(" + m.expr(m.shape(2), size/2) + " " + m.expr(m.shape(2), size/2) + ")"
	case 3:
		return "(fun x -> x x)"
	}
	return m.expr(m.shape(3), size)
}

// form writes an expression that may have any type.
func (m *maker) form(want *tyDraft, size int) string {
	some := m.shape(m.next(5))
	name := m.name()
	number := named("int")
	switch m.next(9) {
	case 0:
		return "(if " + m.expr(named("bool"), size/3) + " then " + m.expr(want, size/3) + " else " + m.expr(want, size/3) + ")"
	case 1:
		first := m.expr(some, size/2)
		body := func() string { return m.expr(want, size/2) }
		return "(let " + name + " = " + first + " in " + m.within(body, made{name, some, m.vars + 99}) + ")"
	case 2:
		body := func() string { return m.expr(want, size/2) }
		return "((fun " + name + " -> " + m.within(body, made{name, some, m.vars + 99}) + ") " + m.expr(some, size/2) + ")"
	case 3:
		text := "(match " + m.expr(some, size/3) + " with "
		for i := range 1 + m.next(3) {
			names := []made{}
			text += []string{"", " | "}[min(i, 1)] + m.pattern(some, 3, &names) + " -> "
			text += m.within(func() string { return m.expr(want, size/3) }, names...)
		}
		return text + " end)"
	case 4:
		second := func() string { return m.expr(want, size/2) }
		return "(try " + m.expr(want, size/2) + " with " + name + " -> " + m.within(second, made{name, number, m.vars + 99}) + " end)"
	case 5:
		return "(" + m.expr(named("unit"), size/2) + "; " + m.expr(want, size/2) + ")"
	case 6:
		return m.of("(! "+m.expr(named("ref", want), size)+")", "(raise "+m.expr(number, size)+")")
	}
	return m.function(want, name, size)
}

// function writes a let of a function that is generic in new variables.
func (m *maker) function(want *tyDraft, name string, size int) string {
	first := m.vars
	m.vars += 1 + m.next(2)
	ty := named("->", m.shape(m.next(3)), m.shape(m.next(4)))
	param := m.name()
	inner := []made{{param, ty.kids[0], m.vars + 99}}
	start := "(let "
	if m.next(2) == 0 {
		start = "(let rec "
		inner = slices.Insert(inner, 0, made{name, ty, m.vars + 99})
	}
	body := m.within(func() string { return m.expr(ty.kids[1], size/2) }, inner...)
	m.vars = first
	rest := m.within(func() string { return m.expr(want, size/2) }, made{name, ty, first})
	if start == "(let " {
		return start + name + " = fun " + param + " -> " + body + " in " + rest + ")"
	}
	return start + name + " " + param + " = " + body + " in " + rest + ")"
}

// simple writes an expression that makes a value of a type.
func (m *maker) simple(want *tyDraft, size int) string {
	number, word := named("int"), named("string")
	two := func(a *tyDraft, sign string, b *tyDraft) string {
		return "(" + m.expr(a, size/2) + sign + m.expr(b, size/2) + ")"
	}
	switch {
	case want.Name == "":
		return "(raise " + m.expr(number, size) + ")"
	case want.Name == "*":
		return two(want.kids[0], ", ", want.kids[1])
	case want.Name == "ref":
		return "(ref " + m.expr(want.kids[0], size) + ")"
	case want.Name == "->":
		name := m.name()
		body := func() string { return m.expr(want.kids[1], size) }
		return "(fun " + name + " -> " + m.within(body, made{name, want.kids[0], m.vars + 99}) + ")"
	case want.Name == "int" && size > 0:
		return two(number, m.of(" + ", " * ", " - ", " / ", " % "), number)
	case want.Name == "int":
		return strconv.Itoa(m.next(9))
	case want.Name == "string" && size > 0:
		return two(word, " ^ ", word)
	case want.Name == "string":
		return m.of(`"a"`, `""`)
	case want.Name == "unit" && size > 0:
		some := m.shape(2)
		return two(named("ref", some), " := ", some)
	case want.Name == "unit":
		return "()"
	case want.Name == "bool" && size > 0 && m.next(2) == 0:
		return two(number, m.of(" = ", " <> ", " < ", " <= "), number)
	}
	return m.con(want, func(i int, arg *tyDraft) string { return m.expr(arg, size/(1+i)) }, size > 0)
}

// con writes a constructor of an expression or of a pattern, one of the first
// in the list if it is not to have large arguments.
func (m *maker) con(want *tyDraft, part func(int, *tyDraft) string, large bool) string {
	list := makerCons[want.Name]
	c := list[0]
	if large {
		c = list[m.next(len(list))]
	}
	if c[1] == "" {
		return c[0]
	}
	arg := draftOf(ty(c[1]).Items, want.kids)
	if c[0] == "::" {
		return "(" + part(1, arg.kids[0]) + " :: " + part(1, arg.kids[1]) + ")"
	}
	return "(" + c[0] + " " + part(0, arg) + ")"
}

// pattern writes a pattern and collects the names that it binds.
func (m *maker) pattern(want *tyDraft, depth int, names *[]made) string {
	if m.mistakes > 0 && m.next(m.mistakes) == 0 {
		return m.pattern(m.shape(2), depth, names)
	}
	part := func(_ int, ty *tyDraft) string { return m.pattern(ty, depth-1, names) }
	switch {
	case want.Name == "int" && m.next(3) == 0:
		return strconv.Itoa(m.next(9))
	case want.Name == "unit" && m.next(3) == 0:
		return "()"
	case want.Name == "*" && depth > 0:
		return "(" + part(0, want.kids[0]) + ", " + part(1, want.kids[1]) + ")"
	case makerCons[want.Name] != nil && depth > 0:
		return m.con(want, part, true)
	}
	name := m.name()
	if m.next(3) == 0 || slices.ContainsFunc(*names, func(k made) bool { return k.name == name }) {
		return "_"
	}
	*names = append(*names, made{name, want, m.vars + 99})
	return name
}

// newMaker knows the predefined names.
func newMaker(seed uint32, mistakes int) *maker {
	m := &maker{lot: lot{seed: seed}, mistakes: mistakes}
	for name, text := range map[string]string{"print": "-> int unit", "say": "-> string unit", "read": "-> unit int", "size": "-> string int"} {
		m.env = append(m.env, made{name, draftOf(ty(text).Items, nil), 99})
	}
	slices.SortFunc(m.env, func(a made, b made) int { return strings.Compare(a.name, b.name) })
	return m
}

// TestInferMadePrograms: a program that was made for a type has this type, or a
// more general one.
func TestInferMadePrograms(t *testing.T) {
	count, general := 0, 0
	for seed := range uint32(2500) {
		m := newMaker(seed, 0)
		want := m.shape(1 + m.next(5))
		p, parseCode, _ := impl.Parse(makerTypes + m.expr(want, 5+m.next(60)))
		if parseCode != 0 {
			continue
		}
		count++
		got, code, at := inferred(t, p)
		wanted := tyOf(want.items(nil)...)
		if code != 0 || !impl.Fits(got, wanted) {
			t.Fatalf("Infer is %s, %d and %d, not %s, for %s", tyText(got), code, at, tyText(wanted), impl.PrintProgram(p))
		}
		if !sameTy(got, wanted) {
			general++
		}
	}
	if count < 2000 || general < 200 {
		t.Errorf("there were only %d programs, %d with a more general type", count, general)
	}
}

// TestInferMistakes compares Infer with the second typer for programs with a
// few mistakes.
func TestInferMistakes(t *testing.T) {
	counts := map[int]int{}
	for seed := range uint32(6000) {
		m := newMaker(seed, 10+30*int(seed%4))
		p, parseCode, _ := impl.Parse(makerTypes + m.expr(m.shape(1+m.next(5)), 5+m.next(60)))
		if parseCode != 0 {
			continue
		}
		_, code, _ := inferred(t, p)
		counts[code]++
		if t.Failed() {
			return
		}
	}
	for _, code := range []int{0, 21, 22, 23, 24, 25} {
		if counts[code] < 50 {
			t.Errorf("the codes occur so many times: %v", counts)
		}
	}
}

// TestInferChangedPrograms compares Infer with the second typer for programs
// of which one node was changed.
func TestInferChangedPrograms(t *testing.T) {
	counts := map[int]int{}
	for seed := range uint32(4000) {
		m := newMaker(seed, 0)
		p, parseCode, _ := impl.Parse(makerTypes + m.expr(m.shape(1+m.next(5)), 5+m.next(60)))
		if parseCode != 0 {
			continue
		}
		for range 3 {
			q := cloned(p)
			m.changeProgram(&q)
			_, code, _ := inferred(t, q)
			counts[code]++
			if t.Failed() {
				return
			}
		}
	}
	for _, code := range []int{0, 1, 11, 12, 13, 21, 22, 23, 24} {
		if counts[code] < 5 {
			t.Errorf("the codes occur so many times: %v", counts)
		}
	}
}

// step writes an expression of some of n names, by which types mostly become
// larger.
func (g *lot) step(n int) string {
	name := func() string { return "v" + strconv.Itoa(max(0, n-1-g.next(1+g.next(n)))) }
	a, b := name(), name()
	return g.of(
		"("+a+", "+b+")", "("+a+", "+b+")", "("+b+", "+a+")", "ref "+a, "ref (ref "+a+")", "fun x -> (x, "+a+")", "fun x -> fun y -> "+a, "d "+a, "d (d "+a+")",
		"Box "+a, "Box (Box "+b+")", a+" :: []", "if true then "+a+" else "+b, a+" "+b, "! "+a, "(! "+a+", "+b+")", a+" := "+b, "ref [] := "+a, "raise 1",
		"match "+a+" with (p, q) -> q | p -> p end", "match "+a+" with (p, (q, r)) -> (r, (q, p)) end", "try "+a+" with p -> "+b+" end", "e "+a+" "+b, "e ("+a+", 1) ("+b+", 1)",
	)
}

// growing is a program of steps. A step by which there is no type any more is
// the last one, but most steps with types that differ are tried again.
func (g *lot) growing(t *testing.T) impl.Program {
	text := "type 'a box = Box of 'a; let d = fun x -> (x, x) in let e = fun x -> fun y -> if true then (x, x) else (y, y) in let v0 = raise 1 in let v1 = raise 1 in "
	for n := 2; n < 25; {
		more := text + "let v" + strconv.Itoa(n) + " = " + g.step(n) + " in "
		_, code, _ := impl.Infer(parsed(t, more+"1"))
		if code == 26 || code != 0 && g.next(30) == 0 {
			return parsed(t, more+g.of("1", "v0", "q"))
		}
		if code == 0 {
			text = more
			n++
		}
	}
	return parsed(t, text+g.step(25))
}

// TestInferLargePrograms compares Infer with the second typer for programs
// whose types become too large.
func TestInferLargePrograms(t *testing.T) {
	counts := map[int]int{}
	for seed := range uint32(1000) {
		g := &lot{seed: seed}
		_, code, _ := inferred(t, g.growing(t))
		counts[code]++
		if t.Failed() {
			return
		}
	}
	if counts[0] < 100 || counts[24] < 100 || counts[25] < 10 || counts[26] < 100 {
		t.Errorf("the codes occur so many times: %v", counts)
	}
}
