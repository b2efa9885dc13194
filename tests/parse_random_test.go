package tests

import (
	"strconv"
	"strings"
	"testing"

	"loop.example/g00395/impl"
)

// lot is a linear congruential generator.
type lot struct{ seed uint32 }

func (g *lot) next(n int) int {
	g.seed = g.seed*1664525 + 1013904223
	return int(g.seed>>16) % n
}

func (g *lot) of(list ...string) string { return list[g.next(len(list))] }

// draft is a node of a random program. It gets its offset when it is written.
type draft struct {
	impl.Node
	kids  []*draft
	pats  []*patDraft
	minus bool
}

type patDraft struct {
	impl.PNode
	kids []*patDraft
}

type tyDraft struct {
	impl.TyItem
	kids []*tyDraft
}

type typeDraft struct {
	vars []string
	name string
	cons []string
	args []*tyDraft
}

func (g *lot) name() string { return g.of("x", "y", "f", "print", "abcdefghijkl", "a_1") }

func (g *lot) con() string { return g.of("A", "B", "Cons", "Abcdefghijkl") }

func (g *lot) number() int { return []int{0, 1, 7, 120, impl.MaxInt}[g.next(5)] }

func (g *lot) leaf() *draft {
	switch g.next(6) {
	case 0:
		return &draft{Node: impl.Node{Kind: impl.EStr, S: g.of("", "a b", "(", "\"\\\n\xff")}}
	case 1:
		return &draft{Node: impl.Node{Kind: impl.EUnit}}
	case 2:
		return &draft{Node: impl.Node{Kind: impl.ECon, S: g.of("true", "false", "[]")}}
	case 3:
		return &draft{Node: impl.Node{Kind: impl.ECon, S: g.con()}}
	case 4:
		return &draft{Node: impl.Node{Kind: impl.EInt, N: g.number()}}
	}
	return &draft{Node: impl.Node{Kind: impl.EVar, S: g.name()}}
}

// expr makes an expression of about so many nodes.
func (g *lot) expr(size int) *draft {
	if size < 2 {
		return g.leaf()
	}
	kinds := []int{
		impl.ECon, impl.EFun, impl.EApp, impl.EApp, impl.ELet, impl.ERec, impl.EIf, impl.EPrim, impl.EPrim, impl.EPrim, impl.EPair,
		impl.EMatch, impl.ERaise, impl.ETry, impl.ERef, impl.EGet, impl.ESet, impl.ESeq,
	}
	d := &draft{Node: impl.Node{Kind: kinds[g.next(len(kinds))]}}
	rest := size - 1
	half := func() *draft { return g.expr(rest / 2) }
	switch d.Kind {
	case impl.ECon:
		if g.next(2) == 0 {
			d.S, d.kids = g.con(), []*draft{g.expr(rest)}
		} else {
			d.S, d.kids = "::", []*draft{{Node: impl.Node{Kind: impl.EPair}, kids: []*draft{half(), half()}}}
		}
	case impl.EFun:
		d.S, d.kids = g.name(), []*draft{g.expr(rest)}
	case impl.ERaise, impl.ERef, impl.EGet:
		d.kids = []*draft{g.expr(rest)}
	case impl.EApp, impl.EPair, impl.ESet, impl.ESeq:
		d.kids = []*draft{half(), half()}
	case impl.ELet, impl.ETry:
		d.S, d.kids = g.name(), []*draft{half(), half()}
	case impl.ERec:
		d.S, d.kids = g.name(), []*draft{{Node: impl.Node{Kind: impl.EFun, S: g.name()}, kids: []*draft{half()}}, half()}
	case impl.EIf:
		d.kids = []*draft{g.expr(rest / 3), g.expr(rest / 3), g.expr(rest / 3)}
	case impl.EPrim:
		g.prim(d, rest)
	case impl.EMatch:
		arms := 1 + g.next(3)
		d.kids = []*draft{g.expr(rest / (arms + 1))}
		for range arms {
			names := 0
			d.pats = append(d.pats, g.pat(g.next(9), &names))
			d.kids = append(d.kids, g.expr(rest/(arms+1)))
		}
	}
	return d
}

func (g *lot) prim(d *draft, size int) {
	if g.next(4) == 0 {
		d.S, d.minus = "-", true
		d.kids = []*draft{{Node: impl.Node{Kind: impl.EInt}}, g.expr(size)}
		return
	}
	d.S = g.of("=", "<>", "<", "<=", "+", "-", "^", "*", "/", "%")
	d.kids = []*draft{g.expr(size / 2), g.expr(size / 2)}
}

// pat makes a pattern. names counts the names that it has so far.
func (g *lot) pat(size int, names *int) *patDraft {
	d := &patDraft{}
	if size < 2 {
		switch g.next(6) {
		case 0:
			d.Kind = impl.PWild
		case 1:
			d.Kind, d.N = impl.PInt, g.number()*(1-2*g.next(2))
		case 2:
			d.Kind, d.S = impl.PCon, g.of("true", "false", "[]")
		case 3:
			d.Kind, d.S = impl.PCon, g.con()
		case 4:
			d.Kind = impl.PUnit
		default:
			*names++
			d.Kind, d.S = impl.PVar, g.of("x", "ab", "v_")+strconv.Itoa(*names)
		}
		return d
	}
	switch g.next(3) {
	case 0:
		d.Kind, d.S, d.kids = impl.PCon, g.con(), []*patDraft{g.pat(size-1, names)}
	case 1:
		pair := &patDraft{PNode: impl.PNode{Kind: impl.PPair}, kids: []*patDraft{g.pat(size/2, names), g.pat(size/2, names)}}
		d.Kind, d.S, d.kids = impl.PCon, "::", []*patDraft{pair}
	default:
		d.Kind, d.kids = impl.PPair, []*patDraft{g.pat(size/2, names), g.pat(size/2, names)}
	}
	return d
}

func (g *lot) typeDecl() *typeDraft {
	d := &typeDraft{name: g.of("t", "u", "int", "abc")}
	d.vars = [][]string{nil, {"'a"}, {"'q"}, {"'a", "'b"}, {"'z", "'c"}}[g.next(5)]
	for range 1 + g.next(4) {
		d.cons = append(d.cons, g.con())
		if g.next(2) == 0 {
			d.args = append(d.args, g.ty(g.next(12), len(d.vars)))
		} else {
			d.args = append(d.args, nil)
		}
	}
	return d
}

func (g *lot) ty(size int, vars int) *tyDraft {
	d := &tyDraft{}
	if size < 2 {
		if vars > 0 && g.next(2) == 0 {
			d.Var = g.next(vars)
		} else {
			d.Name = g.of("int", "t", "list", "abcdefghijkl")
		}
		return d
	}
	switch g.next(4) {
	case 0:
		d.Name, d.Arity, d.kids = g.of("list", "ref", "t"), 1, []*tyDraft{g.ty(size-1, vars)}
	default:
		d.Name, d.Arity, d.kids = g.of("t", "->", "*"), 2, []*tyDraft{g.ty(size/2, vars), g.ty(size/2, vars)}
	}
	return d
}

// writer writes tokens with random gaps, and parentheses where they are
// necessary or by chance.
type writer struct {
	lot
	gaps   []string
	text   string
	toks   []string
	starts []int
}

// needsGap reports whether two tokens would be read as others without a gap.
func needsGap(a string, b string) bool {
	if a == "" {
		return false
	}
	double := "-> <> <= := :: (*"
	return wordPattern.MatchString(a) && (wordPattern.MatchString(b) || b == "_") || strings.Contains(double, a[len(a)-1:]+b[:1])
}

// token writes a token and returns its offset.
func (w *writer) token(s string) int {
	gap := w.of(w.gaps...)
	if len(w.toks) > 0 && gap == "" && needsGap(w.toks[len(w.toks)-1], s) {
		gap = "\n"
	}
	at := len(w.text) + len(gap)
	w.text += gap + s
	w.toks = append(w.toks, s)
	w.starts = append(w.starts, at)
	return at
}

// put writes something that stands where the grammar has this level, and is
// of a level of its own.
func (w *writer) put(own int, level int, write func()) {
	if own >= level && w.next(15) > 0 {
		write()
		return
	}
	w.token("(")
	w.put(own, 0, write)
	w.token(")")
}

// levels are the rules of expr: 0 expr, 1 set, 2 cmp, 3 cons, 4 sum, 5 prod,
// 6 un, 7 app, 8 atom.
func (d *draft) level() int {
	switch d.Kind {
	case impl.EFun, impl.ELet, impl.ERec, impl.EIf, impl.EMatch, impl.ETry, impl.ESeq:
		return 0
	case impl.ESet:
		return 1
	case impl.EPrim:
		return primLevel(d)
	case impl.ERaise, impl.ERef, impl.EGet:
		return 6
	case impl.EApp:
		return 7
	case impl.ECon:
		if d.S == "::" {
			return 3
		}
		return 8 - len(d.kids)
	}
	return 8
}

func primLevel(d *draft) int {
	switch d.S {
	case "+", "-", "^":
		if d.minus {
			return 6
		}
		return 4
	case "*", "/", "%":
		return 5
	}
	return 2
}

func (w *writer) expr(d *draft, level int) {
	w.put(d.level(), level, func() { w.form(d) })
}

func (w *writer) form(d *draft) {
	switch d.Kind {
	case impl.EInt:
		d.At = w.token(strconv.Itoa(d.N))
	case impl.EStr:
		d.At = w.token(impl.Quote(d.S))
	case impl.EVar:
		d.At = w.token(d.S)
	case impl.ECon:
		w.con(d)
	case impl.EApp:
		w.app(d)
	case impl.EPrim:
		w.prim(d)
	case impl.EPair, impl.EUnit:
		d.At = w.token("(")
		for i, k := range d.kids {
			if i > 0 {
				w.token(",")
			}
			w.expr(k, 0)
		}
		w.token(")")
	case impl.ERaise, impl.ERef, impl.EGet:
		d.At = w.token(map[int]string{impl.ERaise: "raise", impl.ERef: "ref", impl.EGet: "!"}[d.Kind])
		w.expr(d.kids[0], 6)
	case impl.ESet:
		w.expr(d.kids[0], 2)
		d.At = w.token(":=")
		w.expr(d.kids[1], 1)
	case impl.ESeq:
		w.expr(d.kids[0], 1)
		d.At = w.token(";")
		w.expr(d.kids[1], 0)
	default:
		w.longForm(d)
	}
}

func (w *writer) con(d *draft) {
	switch {
	case d.S == "[]":
		d.At = w.token("[")
		w.token("]")
	case d.S == "::":
		pair := d.kids[0]
		w.expr(pair.kids[0], 4)
		d.At = w.token("::")
		pair.At = d.At
		w.expr(pair.kids[1], 3)
	default:
		d.At = w.token(d.S)
		for _, k := range d.kids {
			w.expr(k, 8)
		}
	}
}

// app puts a constructor alone into parentheses: it would take the argument.
func (w *writer) app(d *draft) {
	level := 7
	if f := d.kids[0]; f.Kind == impl.ECon && len(f.kids) == 0 && f.S[0] >= 'A' && f.S[0] <= 'Z' {
		level = 9
	}
	w.expr(d.kids[0], level)
	first := len(w.starts)
	w.expr(d.kids[1], 8)
	d.At = w.starts[first]
}

func (w *writer) prim(d *draft) {
	if d.minus {
		d.At = w.token("-")
		d.kids[0].At = d.At
		w.expr(d.kids[1], 6)
		return
	}
	left, right := 3, 3
	if own := d.level(); own > 2 {
		left, right = own, own+1
	}
	w.expr(d.kids[0], left)
	d.At = w.token(d.S)
	w.expr(d.kids[1], right)
}

// words writes tokens that are separated by spaces and returns the offset of
// the first one.
func (w *writer) words(text string) int {
	first := len(w.starts)
	for _, s := range strings.Fields(text) {
		w.token(s)
	}
	return w.starts[first]
}

func (w *writer) longForm(d *draft) {
	switch d.Kind {
	case impl.EFun:
		d.At = w.words("fun " + d.S + " ->")
	case impl.ELet:
		d.At = w.words("let " + d.S + " =")
		w.expr(d.kids[0], 0)
		w.token("in")
	case impl.ERec:
		d.At = w.words("let rec " + d.S)
		d.kids[0].At = w.words(d.kids[0].S + " =")
		w.expr(d.kids[0].kids[0], 0)
		w.token("in")
	case impl.EIf:
		d.At = w.token("if")
		w.expr(d.kids[0], 0)
		w.token("then")
		w.expr(d.kids[1], 0)
		w.token("else")
	case impl.ETry:
		d.At = w.token("try")
		w.expr(d.kids[0], 0)
		w.words("with " + d.S + " ->")
	case impl.EMatch:
		w.match(d)
		return
	}
	w.expr(d.kids[len(d.kids)-1], 0)
	if d.Kind == impl.ETry {
		w.token("end")
	}
}

func (w *writer) match(d *draft) {
	d.At = w.token("match")
	w.expr(d.kids[0], 0)
	w.token("with")
	for i, q := range d.pats {
		if i > 0 {
			w.token("|")
		}
		w.pat(q, 0)
		w.token("->")
		w.expr(d.kids[i+1], 0)
	}
	w.token("end")
}

// pat writes a pattern where the grammar has pat (level 0) or patom (level 1).
func (w *writer) pat(d *patDraft, level int) {
	own := 1
	if d.S == "::" {
		own = 0
	}
	w.put(own, level, func() { w.patForm(d) })
}

func (w *writer) patForm(d *patDraft) {
	switch {
	case d.Kind == impl.PWild:
		w.token("_")
	case d.Kind == impl.PInt && d.N < 0:
		w.token("-")
		w.token(strconv.Itoa(-d.N))
	case d.Kind == impl.PInt:
		w.token(strconv.Itoa(d.N))
	case d.Kind == impl.PUnit:
		w.words("( )")
	case d.Kind == impl.PPair:
		w.token("(")
		w.pat(d.kids[0], 0)
		w.token(",")
		w.pat(d.kids[1], 0)
		w.token(")")
	case d.S == "[]":
		w.words("[ ]")
	case d.S == "::":
		w.pat(d.kids[0].kids[0], 1)
		w.token("::")
		w.pat(d.kids[0].kids[1], 0)
	default:
		w.token(d.S)
		for _, k := range d.kids {
			w.pat(k, 1)
		}
	}
}

func (w *writer) typeDecl(d *typeDraft) {
	w.token("type")
	switch len(d.vars) {
	case 1:
		w.token(d.vars[0])
	case 2:
		w.words("( " + d.vars[0] + " , " + d.vars[1] + " )")
	}
	w.words(d.name + " =")
	for i, c := range d.cons {
		if i > 0 {
			w.token("|")
		}
		w.token(c)
		if d.args[i] != nil {
			w.token("of")
			w.ty(d.args[i], 0, d.vars)
		}
	}
	w.token(";")
}

// ty writes a type where the grammar has ty (0), prod (1), appl (2) or tatom
// (3).
func (w *writer) ty(d *tyDraft, level int, vars []string) {
	own := 3
	switch {
	case d.Name == "->":
		own = 0
	case d.Name == "*":
		own = 1
	case d.Arity == 1:
		own = 2
	}
	w.put(own, level, func() { w.tyForm(d, own, vars) })
}

func (w *writer) tyForm(d *tyDraft, own int, vars []string) {
	switch {
	case d.Name == "":
		w.token(vars[d.Var])
	case own < 2:
		w.ty(d.kids[0], own+1, vars)
		w.token(d.Name)
		w.ty(d.kids[1], own, vars)
	case d.Arity == 1:
		w.ty(d.kids[0], 2, vars)
		w.token(d.Name)
	case d.Arity == 2:
		w.token("(")
		w.ty(d.kids[0], 0, vars)
		w.token(",")
		w.ty(d.kids[1], 0, vars)
		w.words(") " + d.Name)
	default:
		w.token(d.Name)
	}
}

// nodes appends the node and its descendants in preorder.
func (d *draft) nodes(list []impl.Node) []impl.Node {
	at := len(list)
	d.Pats = nil
	for _, q := range d.pats {
		d.Pats = append(d.Pats, impl.Pat{Nodes: q.nodes(nil)})
	}
	list = append(list, d.Node)
	for _, k := range d.kids {
		list[at].Kids = append(list[at].Kids, len(list))
		list = k.nodes(list)
	}
	return list
}

func (d *patDraft) nodes(list []impl.PNode) []impl.PNode {
	at := len(list)
	list = append(list, d.PNode)
	for _, k := range d.kids {
		list[at].Kids = append(list[at].Kids, len(list))
		list = k.nodes(list)
	}
	return list
}

func (d *tyDraft) items(list []impl.TyItem) []impl.TyItem {
	list = append(list, d.TyItem)
	for _, k := range d.kids {
		list = k.items(list)
	}
	return list
}

func (d *typeDraft) made() impl.Type {
	made := impl.Type{Name: d.name, Params: len(d.vars)}
	for i, name := range d.cons {
		c := impl.Con{Name: name}
		if d.args[i] != nil {
			c.Has, c.Arg.Items = true, d.args[i].items(nil)
		}
		made.Cons = append(made.Cons, c)
	}
	return made
}

var allGaps = []string{"", "", " ", "\n", "\t\r\n ", "(**)", " (* x *) ", "(*(*)*)*)", "(* \" 07 ? \xff (* *) *)\n"}

// randomProgram writes a random program.
func randomProgram(seed uint32, gaps []string) (impl.Program, *writer) {
	w := &writer{lot: lot{seed: seed}, gaps: gaps}
	p := impl.Program{}
	for range w.next(4) {
		d := w.lot.typeDecl()
		w.typeDecl(d)
		p.Types = append(p.Types, d.made())
	}
	d := w.lot.expr(1 + w.next(40))
	w.expr(d, 0)
	p.Nodes = d.nodes(nil)
	return p, w
}

// TestWrittenProgramsAreParsed writes random programs with comments between
// their tokens, and expects all of their nodes with the offsets at which they
// were written.
func TestWrittenProgramsAreParsed(t *testing.T) {
	count := 0
	for seed := range uint32(8000) {
		want, w := randomProgram(seed, allGaps)
		if len(w.text) > impl.MaxText || len(want.Nodes) > impl.MaxNodes {
			continue
		}
		count++
		w.text += w.of(allGaps...)
		if got := shown(t, parsed(t, w.text)); got != shown(t, want) {
			t.Fatalf("Parse(%q) is\n%s, not\n%s", w.text, got, shown(t, want))
		}
	}
	if count < 7000 {
		t.Errorf("only %d programs were parsed", count)
	}
}

// TestEveryFormIsWritten: the random programs have nodes of all kinds.
func TestEveryFormIsWritten(t *testing.T) {
	exprs, pats := map[int]int{}, map[int]int{}
	for seed := range uint32(300) {
		p, _ := randomProgram(seed, allGaps)
		for _, n := range p.Nodes {
			exprs[n.Kind]++
			for _, q := range n.Pats {
				for _, k := range q.Nodes {
					pats[k.Kind]++
				}
			}
		}
	}
	for kind := impl.EInt; kind <= impl.ESeq; kind++ {
		if exprs[kind] < 10 {
			t.Errorf("%d nodes of kind %s", exprs[kind], exprKinds[kind])
		}
	}
	for kind := impl.PWild; kind <= impl.PUnit; kind++ {
		if pats[kind] < 10 {
			t.Errorf("%d nodes of kind %s in patterns", pats[kind], patKinds[kind])
		}
	}
}

// moved is a program with the offsets of another text.
func moved(p impl.Program, place func(int) int) impl.Program {
	for i := range p.Nodes {
		p.Nodes[i].At = place(p.Nodes[i].At)
	}
	return p
}

// TestCommentsChangeOnlyPlaces puts one comment ahead of every token in turn,
// and behind the last one.
func TestCommentsChangeOnlyPlaces(t *testing.T) {
	const comment = " (* ) (* 07 *) \" *) "
	for seed := range uint32(100) {
		_, w := randomProgram(seed, []string{" "})
		if len(w.text)+len(comment) > impl.MaxText {
			continue
		}
		for _, start := range append([]int{0, len(w.text)}, w.starts...) {
			text := w.text[:start] + comment + w.text[start:]
			want := moved(parsed(t, w.text), func(at int) int {
				if at < start {
					return at
				}
				return at + len(comment)
			})
			if got := shown(t, parsed(t, text)); got != shown(t, want) {
				t.Fatalf("Parse(%q) is\n%s, not\n%s", text, got, shown(t, want))
			}
		}
	}
}

// TestCommentsMoveErrors: a comment moves the offset of an error behind it.
func TestCommentsMoveErrors(t *testing.T) {
	const comment = "(* ( ? *)"
	open := strings.Repeat("( ", impl.MaxDepth+1)
	for _, e := range []struct {
		text string
		code int
		at   int
	}{
		{"1 +", 7, 3}, {"( 1 , 2 ; 3 in", 7, 12}, {"match 1 with ( x , x ) -> 2 end", 8, 19}, {open + "1", 9, len(open)}, {"type t = A of 'a ; 1", 7, 14},
	} {
		checkParseError(t, e.text, e.code, e.at)
		for i := range len(e.text) + 1 {
			if i > 0 && i < len(e.text) && e.text[i-1] != ' ' {
				continue
			}
			at := e.at
			if i <= at {
				at += len(comment)
			}
			checkParseError(t, e.text[:i]+comment+e.text[i:], e.code, at)
		}
	}
}

// TestNamesTwiceInRandomPatterns renames the last name of a pattern.
func TestNamesTwiceInRandomPatterns(t *testing.T) {
	count := 0
	for seed := range uint32(3000) {
		w := &writer{lot: lot{seed: seed}, gaps: allGaps}
		names := 0
		d := w.lot.pat(2+w.next(20), &names)
		w.words("match 0 with")
		w.pat(d, 0)
		w.words("-> 1 end")
		vars := []int{}
		for i, s := range w.toks[3 : len(w.toks)-3] {
			if impl.NameOk(s) {
				vars = append(vars, i+3)
			}
		}
		parsed(t, w.text)
		if len(vars) < 2 {
			continue
		}
		count++
		i := w.next(len(vars) - 1)
		j := i + 1 + w.next(len(vars)-1-i)
		first, again := w.toks[vars[i]], vars[j]
		at := w.starts[again]
		checkParseError(t, w.text[:at]+first+w.text[at+len(w.toks[again]):], 8, at)
	}
	if count < 500 {
		t.Errorf("only %d patterns have two names", count)
	}
}
