package tests

import (
	"fmt"
	"slices"
	"testing"

	"loop.example/g00395/impl"
)

// teller finds values of a type that are enough to tell patterns apart: a part
// to which no pattern leads is the same in all of them, namely a string, and a
// number that no pattern has stands for all of these.
type teller struct {
	p       impl.Program
	tooMany bool
}

// mostValues of one type are looked at.
const mostValues = 20000

// part is a node of a pattern.
type part struct {
	q  impl.Pat
	at int
}

func (x part) node() impl.PNode { return x.q.Nodes[x.at] }

func (x part) kid(i int) part { return part{x.q, x.node().Kids[i]} }

func (x part) isAnything() bool {
	return x.node().Kind == impl.PWild || x.node().Kind == impl.PVar
}

// values sets tooMany, and has no meaning, if there are too many of them.
func (c *teller) values(a impl.Ty, parts []part) []impl.Data {
	parts = slices.DeleteFunc(slices.Clone(parts), part.isAnything)
	if len(parts) == 0 {
		return []impl.Data{single(impl.PVar, 0, "anything")}
	}
	switch head := a.Items[0]; head.Name {
	case "int":
		return c.numbers(parts)
	case "unit":
		return []impl.Data{single(impl.PUnit, 0, "")}
	case "*":
		return c.pairs(a, parts)
	case "", "string", "->", "ref":
		panic("a pattern of a type without patterns")
	}
	list := []impl.Data{}
	for _, name := range c.conNames(a.Items[0].Name) {
		list = append(list, c.withCon(a, name, parts)...)
	}
	return list
}

func single(kind int, n int, s string) impl.Data {
	return impl.Data{Nodes: []impl.DNode{dnode(kind, n, s)}}
}

func (c *teller) numbers(parts []part) []impl.Data {
	found := []int{impl.MinInt}
	for _, x := range parts {
		found = append(found, x.node().N)
	}
	slices.Sort(found)
	list := []impl.Data{}
	for _, n := range slices.Compact(found) {
		list = append(list, single(impl.PInt, n, ""))
	}
	return list
}

func (c *teller) pairs(a impl.Ty, parts []part) []impl.Data {
	firstTy, rest := cut(a.Items[1:])
	firsts, seconds := []part{}, []part{}
	for _, x := range parts {
		firsts, seconds = append(firsts, x.kid(0)), append(seconds, x.kid(1))
	}
	left, right := c.values(tyOf(firstTy...), firsts), c.values(tyOf(rest...), seconds)
	if c.tooMany || len(left)*len(right) > mostValues {
		c.tooMany = true
		return nil
	}
	list := []impl.Data{}
	for _, d := range left {
		for _, e := range right {
			size := 1 + len(d.Nodes)
			top := dnode(impl.PPair, 0, "", 1, size)
			list = append(list, impl.Data{Nodes: slices.Concat([]impl.DNode{top}, moveData(d.Nodes, 1), moveData(e.Nodes, size))})
		}
	}
	return list
}

// conNames are the names of the constructors of a type.
func (c *teller) conNames(name string) []string {
	switch name {
	case "bool":
		return []string{"true", "false"}
	case "list":
		return []string{"[]", "::"}
	}
	names := []string{}
	for _, d := range c.p.Types {
		for _, k := range d.Cons {
			if d.Name == name {
				names = append(names, k.Name)
			}
		}
	}
	return names
}

// withCon are the values of a type that have this constructor.
func (c *teller) withCon(a impl.Ty, name string, parts []part) []impl.Data {
	_, arg, _ := (&second{p: c.p}).declared(name)
	if len(arg.Items) == 0 {
		return []impl.Data{single(impl.PCon, 0, name)}
	}
	l := []impl.Sub{}
	for rest := a.Items[1:]; len(rest) > 0; {
		var first []impl.TyItem
		first, rest = cut(rest)
		l = append(l, impl.Sub{Var: len(l), Ty: tyOf(first...)})
	}
	inner := []part{}
	for _, x := range parts {
		if x.node().S == name {
			inner = append(inner, x.kid(0))
		}
	}
	list := []impl.Data{}
	for _, d := range c.values(replacedItems(arg, l), inner) {
		nodes := moveData(d.Nodes, 1)
		if name == "::" && d.Nodes[0].Kind == impl.PVar {
			nodes = []impl.DNode{dnode(impl.PPair, 0, "", 2, 3), dnode(impl.PVar, 0, "anything"), dnode(impl.PVar, 0, "anything")}
		}
		list = append(list, impl.Data{Nodes: append([]impl.DNode{dnode(impl.PCon, 0, name, 1)}, nodes...)})
	}
	return list
}

// secondCover is Complete and Useless, by a look at all these values. The last
// result is false if there are too many of them.
func secondCover(p impl.Program, l []impl.Pat) (complete bool, useless []int, known bool) {
	common, code := secondPats(p, l)
	if code != 0 {
		return false, nil, true
	}
	parts := []part{}
	for _, q := range l {
		parts = append(parts, part{q, 0})
	}
	c := &teller{p: p}
	values := c.values(common, parts)
	if c.tooMany {
		return false, nil, false
	}
	complete = true
	matchedFirst := make([]bool, len(l))
	for _, d := range values {
		first := slices.IndexFunc(l, func(q impl.Pat) bool {
			_, hit := secondHit(q, 0, d, 0)
			return hit
		})
		if first < 0 {
			complete = false
		} else {
			matchedFirst[first] = true
		}
	}
	for i, first := range matchedFirst {
		if !first {
			useless = append(useless, i)
		}
	}
	return complete, useless, true
}

// patTexts are patterns as they are printed.
func patTexts(l []impl.Pat) string {
	texts := []string{}
	for _, q := range l {
		texts = append(texts, impl.PrintPat(q))
	}
	return brief(fmt.Sprint(texts))
}

// covered is what Complete and Useless return, after it has been compared with
// secondCover and with each other. The last result is false without a common
// type.
func covered(t *testing.T, p impl.Program, l []impl.Pat) (bool, []int, bool) {
	t.Helper()
	complete, ok := impl.Complete(p, l)
	useless, also := impl.Useless(p, l)
	_, code := impl.PatsTy(p, l)
	if ok != (code == 0) || also != ok || !ok && (complete || useless != nil) {
		t.Fatalf("Complete is %v and %v, Useless is %v and %v, the code is %d for %s", complete, ok, useless, also, code, patTexts(l))
	}
	if want, wanted, known := secondCover(p, l); known && (complete != want || !slices.Equal(useless, wanted)) {
		t.Fatalf("Complete is %v, not %v, Useless is %v, not %v, for %s", complete, want, useless, wanted, patTexts(l))
	}
	if ok {
		checkUselessRules(t, p, l, complete, useless)
	}
	return complete, useless, ok
}

// checkUselessRules checks what holds for all patterns with a common type.
func checkUselessRules(t *testing.T, p impl.Program, l []impl.Pat, complete bool, useless []int) {
	t.Helper()
	wild := impl.Pat{Nodes: []impl.PNode{pnode(impl.PWild, 0, "")}}
	longer, ok := impl.Useless(p, slices.Concat(l, []impl.Pat{wild}))
	if !ok || slices.Contains(longer, len(l)) != complete || !slices.Equal(longer[:len(useless)], useless) {
		t.Fatalf("Complete is %v, with a wildcard Useless is %v and %v, not %v, for %s", complete, longer, ok, useless, patTexts(l))
	}
	plain, kept := []impl.Pat{}, []impl.Pat{}
	for i, q := range l {
		plain = append(plain, withoutNames(q))
		if !slices.Contains(useless, i) {
			kept = append(kept, q)
		}
	}
	if same, ok := impl.Complete(p, plain); !ok || same != complete {
		t.Fatalf("without names, Complete is %v and %v for %s", same, ok, patTexts(l))
	}
	if same, ok := impl.Useless(p, plain); !ok || !slices.Equal(same, useless) {
		t.Fatalf("without names, Useless is %v and %v for %s", same, ok, patTexts(l))
	}
	// What is left has a type as well, though it may be more general.
	if same, ok := impl.Complete(p, kept); !ok || same != complete {
		t.Fatalf("without the useless patterns, Complete is %v and %v for %s", same, ok, patTexts(l))
	}
	if none, ok := impl.Useless(p, kept); !ok || len(none) > 0 {
		t.Fatalf("without the useless patterns, Useless is %v and %v for %s", none, ok, patTexts(l))
	}
}
