package tests

import (
	"slices"
	"strings"
	"testing"

	"loop.example/g00395/impl"
)

// tally counts lists of patterns by what is true of them.
type tally struct{ lists, complete, useless int }

// covered adds patterns with a common type, after they have been checked.
func (c *tally) covered(t *testing.T, p impl.Program, l []impl.Pat) {
	t.Helper()
	complete, useless, ok := covered(t, p, l)
	if !ok {
		t.Fatalf("there is no type for %s", patTexts(l))
	}
	c.lists++
	if complete {
		c.complete++
	}
	if len(useless) > 0 {
		c.useless++
	}
}

// check requires so many lists of every sort.
func (c *tally) check(t *testing.T, least int) {
	t.Helper()
	if min(c.complete, c.lists-c.complete, c.useless, c.lists-c.useless) < least {
		t.Errorf("of %d lists, %d are complete, %d have useless patterns", c.lists, c.complete, c.useless)
	}
}

// checkAllLists compares Complete and Useless with secondCover for all lists
// of at most so many of these patterns.
func checkAllLists(t *testing.T, types string, pats string, most int) {
	t.Helper()
	p, all := parsed(t, types+" ()"), patsOf(t, pats)
	c := &tally{}
	var extend func(l []impl.Pat)
	extend = func(l []impl.Pat) {
		if len(l) > 0 {
			c.covered(t, p, l)
		}
		if len(l) < most {
			for _, q := range all {
				extend(append(slices.Clone(l), q))
			}
		}
	}
	extend(nil)
	c.check(t, 50)
}

func TestCoverAllSmallLists(t *testing.T) {
	checkAllLists(t, "", "_|(true, _)|(false, _)|(_, true)|(_, false)|(true, true)|(true, false)|(false, true)|(false, false)", 4)
	checkAllLists(t, "", "x|[]|_ :: _|true :: _|_ :: []|false :: []|true :: false :: _|_ :: _ :: _|_ :: true :: _", 4)
	checkAllLists(t, "type t = A | B of t | C of bool * t;", "_|A|B _|B A|B (B _)|B (C _)|C (true, _)|C (false, _)|C (_, A)|C (_, B _)|C (true, C _)", 4)
	checkAllLists(t, "type 'a o = N | S of 'a;", "_|(1, _)|(_, N)|(2, N)|(_, S _)|(_, S 1)|(1, S x)|(1, S 2)|(x, S (-1))", 4)
	checkAllLists(t, "type b = Box of b; type ('a, 'b) e = L of 'a | R of 'b;", "_|L _|R _|L (Box _)|L (Box (Box _))|R true|R false", 5)
}

// ways writes patterns of a type that together match every value once, by
// taking a part apart into all of its forms.
func (m *maker) ways(want *tyDraft, depth int) []string {
	if depth == 0 || m.next(4) == 0 {
		return []string{"_"}
	}
	list := []string{}
	switch {
	case want.Name == "int":
		return []string{"1", "2", "_"}
	case want.Name == "unit":
		return []string{"()"}
	case want.Name == "*":
		for _, first := range m.ways(want.kids[0], depth-1) {
			for _, second := range m.ways(want.kids[1], depth-1) {
				list = append(list, "("+first+", "+second+")")
			}
		}
		return list
	case makerCons[want.Name] == nil:
		return []string{"_"}
	}
	for _, c := range makerCons[want.Name] {
		if c[1] == "" {
			list = append(list, c[0])
			continue
		}
		arg := draftOf(ty(c[1]).Items, want.kids)
		for _, text := range m.ways(arg, depth-1) {
			switch {
			case c[0] == "::" && text == "_":
				list = append(list, "_ :: _")
			case c[0] == "::":
				first, second := splitPair(text)
				list = append(list, "("+first+") :: "+second)
			default:
				list = append(list, c[0]+" ("+text+")")
			}
		}
	}
	return list
}

// splitPair returns the texts of the components of a pair.
func splitPair(text string) (string, string) {
	depth := 0
	for i, c := range text {
		switch c {
		case '(':
			depth++
		case ')':
			depth--
		case ',':
			if depth == 1 {
				return text[1:i], text[i+2 : len(text)-1]
			}
		}
	}
	return text, ""
}

// TestCoverWays takes types apart: all the patterns are complete, and none is
// useless; without one of them, they are not complete; and so on.
func TestCoverWays(t *testing.T) {
	p := parsed(t, makerTypes+"()")
	count := 0
	for seed := range uint32(3000) {
		m := newMaker(seed, 0)
		texts := m.ways(m.shape(1+m.next(5)), 1+m.next(4))
		if len(texts) < 2 || len(texts) > 60 {
			continue
		}
		count++
		// With numbers, the last one matches what the others do, too.
		ordered := strings.Contains(strings.Join(texts, " "), "1")
		l := patsOf(t, strings.Join(texts, "|"))
		if complete, useless, ok := covered(t, p, l); !ok || !complete || len(useless) > 0 {
			t.Fatalf("Complete is %v and %v, Useless is %v, for %s", complete, ok, useless, patTexts(l))
		}
		left := slices.Delete(slices.Clone(l), 0, 1)
		if complete, useless, ok := covered(t, p, left); !ok || complete && !ordered || len(useless) > 0 {
			t.Fatalf("Complete is %v and %v, Useless is %v, for %s", complete, ok, useless, patTexts(left))
		}
		// Every order of patterns that match different values will do.
		for i := len(l) - 1; i > 0; i-- {
			j := m.next(i + 1)
			l[i], l[j] = l[j], l[i]
		}
		if complete, useless, ok := covered(t, p, l); !ok || !complete || !ordered && len(useless) > 0 {
			t.Fatalf("Complete is %v and %v, Useless is %v, for %s", complete, ok, useless, patTexts(l))
		}
		covered(t, p, l[:1+m.next(len(l))])
		covered(t, p, append(slices.Clone(l), l[m.next(len(l))], l[m.next(len(l))]))
	}
	if count < 500 {
		t.Errorf("there were only %d lists", count)
	}
}

// TestCoverMadePatterns has random patterns of one type, some of which are
// taken from those that match everything together.
func TestCoverMadePatterns(t *testing.T) {
	p := parsed(t, makerTypes+"()")
	c := &tally{}
	for seed := range uint32(12000) {
		m := newMaker(seed, 0)
		want := m.shape(1 + m.next(5))
		texts := m.ways(want, 1+m.next(3))
		for range 1 + m.next(4) {
			texts = append(texts, m.pattern(want, 1+m.next(4), &[]made{}))
		}
		if len(texts) > 40 {
			continue
		}
		l := []impl.Pat{}
		for _, q := range patsOf(t, strings.Join(texts, "|")) {
			if m.next(3) > 0 {
				l = slices.Insert(l, m.next(len(l)+1), q)
			}
		}
		if len(l) > 0 {
			c.covered(t, p, l)
		}
	}
	c.check(t, 2000)
}

// TestCoverMistakes has random patterns that often have no common type.
func TestCoverMistakes(t *testing.T) {
	counts := map[bool]int{}
	for seed := range uint32(6000) {
		g := &lot{seed: seed}
		p := parsed(t, "type t = A | B of int; type 'a o = N | S of 'a; ()")
		l := []impl.Pat{}
		for range 1 + g.next(4) {
			names := 0
			l = append(l, impl.Pat{Nodes: g.knownPat(g.next(6), &names).nodes(nil)})
		}
		if g.next(4) == 0 {
			q := &l[g.next(len(l))]
			*q = impl.Pat{Nodes: shifted(*q, 0)}
			g.changePat(q)
		}
		_, _, ok := covered(t, p, l)
		counts[ok]++
	}
	if counts[true] < 1000 || counts[false] < 1000 {
		t.Errorf("the counts are %v", counts)
	}
}

// TestCoverHits: random values are matched by complete patterns, and a value
// that a useless pattern matches is matched by an earlier one.
func TestCoverHits(t *testing.T) {
	p := parsed(t, makerTypes+"()")
	counts := map[bool]int{}
	for seed := range uint32(4000) {
		m := newMaker(seed, 0)
		want := m.shape(1 + m.next(4))
		texts := m.ways(want, 2)
		for range 1 + m.next(3) {
			texts = append(texts, m.pattern(want, 1+m.next(3), &[]made{}))
		}
		l := patsOf(t, strings.Join(texts[m.next(len(texts)):], "|"))
		complete, ok := impl.Complete(p, l)
		useless, also := impl.Useless(p, l)
		if !ok || !also {
			t.Fatalf("there is no type for %s", patTexts(l))
		}
		for range 5 {
			d := m.typedData(want, 3+m.next(3))
			first := slices.IndexFunc(l, func(q impl.Pat) bool {
				_, hit := impl.Hit(q, d)
				return hit
			})
			if complete && first < 0 || slices.Contains(useless, first) {
				t.Fatalf("pattern %d is the first for %v, Complete is %v, Useless is %v for %s", first, d, complete, useless, patTexts(l))
			}
			counts[first >= 0]++
		}
	}
	if counts[true] < 5000 || counts[false] < 1000 {
		t.Errorf("the counts are %v", counts)
	}
}

// typedData is a random value of a type, of which parts that are nested deeper
// than so, functions, references and values of undetermined types are strings.
func (m *maker) typedData(want *tyDraft, depth int) impl.Data {
	pair := func(a *tyDraft, b *tyDraft) []impl.DNode {
		first, second := m.typedData(a, depth-1), m.typedData(b, depth-1)
		size := 1 + len(first.Nodes)
		return slices.Concat([]impl.DNode{dnode(impl.PPair, 0, "", 1, size)}, moveData(first.Nodes, 1), moveData(second.Nodes, size))
	}
	switch {
	case want.Name == "int":
		return single(impl.PInt, m.next(9), "")
	case want.Name == "unit":
		return single(impl.PUnit, 0, "")
	case want.Name == "*" && depth > 0:
		return impl.Data{Nodes: pair(want.kids[0], want.kids[1])}
	case makerCons[want.Name] == nil || depth <= 0:
		return single(impl.PVar, 0, "anything")
	}
	list := makerCons[want.Name]
	c := list[m.next(len(list))]
	if c[1] == "" {
		return single(impl.PCon, 0, c[0])
	}
	arg := draftOf(ty(c[1]).Items, want.kids)
	nodes := m.typedData(arg, depth-1).Nodes
	if c[0] == "::" {
		nodes = pair(arg.kids[0], arg.kids[1])
	}
	return impl.Data{Nodes: append([]impl.DNode{dnode(impl.PCon, 0, c[0], 1)}, moveData(nodes, 1)...)}
}
