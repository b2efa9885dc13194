package tests

import (
	"math"
	"slices"
	"strings"
	"testing"

	"loop.example/g00395/impl"
)

// somePats are valid patterns.
func somePats(t *testing.T) []impl.Pat {
	t.Helper()
	return patsOf(t, "_ | A (x, -2) | x :: y :: [] | ()")
}

// codeWith is code of five instructions with four patterns, the second
// instruction of which is this one.
func codeWith(t *testing.T, i impl.Ins) impl.Code {
	t.Helper()
	ret := impl.Ins{Op: impl.OpRet}
	return impl.Code{Ins: []impl.Ins{ret, i, ret, ret, ret}, Pats: somePats(t)}
}

// checkIns checks whether code with an instruction is valid. CodeText is empty
// if it is not.
func checkIns(t *testing.T, i impl.Ins, want bool) {
	t.Helper()
	c := codeWith(t, i)
	if got, text := impl.CodeOk(c), impl.CodeText(c); got != want || codeIsRight(c) != want || (text != "") != want {
		t.Errorf("CodeOk is %v, not %v, for %+v; CodeText is %q", got, want, i, text)
	}
}

// rightIns has valid instructions of every Op, with A and B at their least and
// greatest values, in code as above.
func rightIns() []impl.Ins {
	list := []impl.Ins{}
	add := func(op int, fields ...impl.Ins) {
		for _, i := range fields {
			i.Op = op
			list = append(list, i)
		}
	}
	for op := impl.OpInt; op <= impl.OpPop; op++ {
		switch op {
		case impl.OpInt:
			add(op, impl.Ins{A: impl.MinInt}, impl.Ins{A: -1}, impl.Ins{A: 0}, impl.Ins{A: 1}, impl.Ins{A: impl.MaxInt})
		case impl.OpStr:
			add(op, impl.Ins{S: ""}, impl.Ins{S: "x"}, impl.Ins{S: "\x00\n\xff\"\\"}, impl.Ins{S: "::"}, impl.Ins{S: strings.Repeat("x", impl.MaxText+impl.MaxStr)})
		case impl.OpCon:
			add(op, impl.Ins{S: "A"}, impl.Ins{A: 1, S: "A"}, impl.Ins{S: "Abcdefghijkl"}, impl.Ins{A: 1, S: "A_1"}, impl.Ins{S: "true"}, impl.Ins{S: "false"}, impl.Ins{S: "[]"}, impl.Ins{A: 1, S: "::"})
		case impl.OpVar, impl.OpDrop:
			add(op, impl.Ins{A: 0}, impl.Ins{A: 1}, impl.Ins{A: 5}, impl.Ins{A: impl.MaxCode - 1}, impl.Ins{A: impl.MaxCode})
		case impl.OpGiven:
			add(op, impl.Ins{S: "print"}, impl.Ins{S: "say"}, impl.Ins{S: "read"}, impl.Ins{S: "size"})
		case impl.OpFun, impl.OpRec, impl.OpJump, impl.OpIfNot, impl.OpTry:
			add(op, impl.Ins{A: 0}, impl.Ins{A: 1}, impl.Ins{A: 4})
		case impl.OpPrim:
			for _, sign := range []string{"=", "<>", "<", "<=", "+", "-", "*", "/", "%", "^"} {
				add(op, impl.Ins{S: sign})
			}
		case impl.OpArm:
			add(op, impl.Ins{A: 0, B: 0}, impl.Ins{A: 3, B: 4}, impl.Ins{A: 0, B: 4}, impl.Ins{A: 3, B: 0}, impl.Ins{A: 1, B: 1})
		default:
			add(op, impl.Ins{})
		}
	}
	return list
}

func TestCodeOkOfEveryOp(t *testing.T) {
	ops := map[int]bool{}
	for _, i := range rightIns() {
		checkIns(t, i, true)
		ops[i.Op] = true
	}
	if len(ops) != 25 {
		t.Errorf("there are %d Ops", len(ops))
	}
}

// mostOf are the greatest values of A and B of an Op in code as above.
func mostOf(op int) (int, int) {
	switch op {
	case impl.OpInt:
		return impl.MaxInt, 0
	case impl.OpCon:
		return 1, 0
	case impl.OpVar, impl.OpDrop:
		return 3000, 0
	case impl.OpFun, impl.OpRec, impl.OpJump, impl.OpIfNot, impl.OpTry:
		return 4, 0
	case impl.OpArm:
		return 3, 4
	}
	return 0, 0
}

// TestCodeOkNumbers has A and B just outside of their ranges, or not 0 where an
// Op does not use them, and far from them.
func TestCodeOkNumbers(t *testing.T) {
	for _, i := range rightIns() {
		mostA, mostB := mostOf(i.Op)
		leastA := 0
		if i.Op == impl.OpInt {
			leastA = impl.MinInt
		}
		changed := i
		for _, a := range append([]int{leastA - 1, mostA + 1}, farNumbers...) {
			if changed.A = a; a < leastA || a > mostA {
				checkIns(t, changed, false)
			}
		}
		changed = i
		for _, b := range append([]int{-1, mostB + 1}, farNumbers...) {
			changed.B = b
			checkIns(t, changed, false)
		}
	}
}

// TestCodeOkTexts has an S that is not right for an Op, or where it does not
// use S.
func TestCodeOkTexts(t *testing.T) {
	for _, i := range rightIns() {
		wrong := []string{"x", "A", "+", " ", "print", "true", "::", "\x00"}
		switch i.Op {
		case impl.OpStr:
			wrong = nil
		case impl.OpCon:
			wrong = badCons()
			if i.A == 0 {
				wrong = append(slices.DeleteFunc(wrong, isLoneName), "::")
			}
		case impl.OpGiven:
			wrong = append(badNames(), "x", "prin", "prints", "Print", "print ", "writes", "error")
		case impl.OpPrim:
			wrong = append(slices.DeleteFunc(badNames(), isOperator), "==", "!", ";", "::", ":=", ">", ">=", "+ ", " +", "<<", "x", "&", "**", "++")
		}
		for _, s := range wrong {
			changed := i
			changed.S = s
			checkIns(t, changed, false)
		}
	}
}

// TestCodeOkConstructors: A is the number of children.
func TestCodeOkConstructors(t *testing.T) {
	for _, e := range []struct {
		name  string
		alone bool
		with  bool
	}{{"A", true, true}, {"Abcdefghijkl", true, true}, {"Abcdefghijklm", false, false}, {"a", false, false}, {"", false, false}, {"true", true, false}, {"false", true, false}, {"[]", true, false}, {"::", false, true}, {":", false, false}, {"()", false, false}} {
		checkIns(t, impl.Ins{Op: impl.OpCon, S: e.name}, e.alone)
		checkIns(t, impl.Ins{Op: impl.OpCon, A: 1, S: e.name}, e.with)
		for _, a := range append([]int{2, 3}, farNumbers...) {
			checkIns(t, impl.Ins{Op: impl.OpCon, A: a, S: e.name}, false)
		}
	}
}

func TestCodeOkUnknownOps(t *testing.T) {
	for _, op := range append([]int{0, 26, 27, 100, math.MinInt}, farNumbers...) {
		checkIns(t, impl.Ins{Op: op}, false)
		checkIns(t, impl.Ins{Op: op, A: 1, B: 1, S: "x"}, false)
	}
}

// TestCodeOkEveryPlace puts an invalid instruction in every place of code.
func TestCodeOkEveryPlace(t *testing.T) {
	good, _ := impl.Compile(parsed(t, everyForm))
	for at := range good.Ins {
		for _, bad := range []impl.Ins{{}, {Op: impl.OpRet, A: 1}, {Op: impl.OpJump, A: len(good.Ins)}, {Op: impl.OpArm, A: len(good.Pats)}} {
			c := wholeCode(impl.Code{Ins: slices.Clip(good.Ins), Pats: slices.Clip(good.Pats)})
			c.Ins[at] = bad
			if impl.CodeOk(c) || impl.CodeText(c) != "" {
				t.Errorf("CodeOk is true with %+v at the address %d", bad, at)
			}
		}
	}
}

// TestCodeOkCounts has code of no instructions up to more than MaxCode.
func TestCodeOkCounts(t *testing.T) {
	for _, count := range []int{0, 1, 2, impl.MaxCode - 1, impl.MaxCode, impl.MaxCode + 1, impl.MaxCode + 2, 2 * impl.MaxCode} {
		want := count >= 1 && count <= impl.MaxCode
		c := impl.Code{Ins: slices.Repeat([]impl.Ins{{Op: impl.OpUnit}}, count)}
		text := impl.CodeText(c)
		if impl.CodeOk(c) != want || strings.Count(text, "\n") != map[bool]int{true: count}[want] {
			t.Errorf("CodeOk is %v for %d instructions, CodeText has %d bytes", impl.CodeOk(c), count, len(text))
		}
		if count == 0 {
			continue
		}
		for _, op := range []int{impl.OpFun, impl.OpRec, impl.OpJump, impl.OpIfNot, impl.OpTry} {
			for target := count - 2; target <= count+1; target++ {
				c.Ins[count-1] = impl.Ins{Op: op, A: target}
				if impl.CodeOk(c) != (want && target >= 0 && target < count) {
					t.Errorf("CodeOk is %v for the address %d in %d instructions", impl.CodeOk(c), target, count)
				}
			}
		}
	}
	for _, c := range []impl.Code{{}, {Ins: []impl.Ins{}, Pats: []impl.Pat{}}, {Pats: somePats(t)}, {Ins: []impl.Ins{{}}}} {
		if impl.CodeOk(c) || impl.CodeText(c) != "" {
			t.Errorf("CodeOk is true for %s", codeText(c))
		}
	}
}

// TestCodeOkAddresses: an address need not make sense, as long as it is one.
func TestCodeOkAddresses(t *testing.T) {
	for _, list := range [][]impl.Ins{
		{{Op: impl.OpJump}}, {{Op: impl.OpFun}}, {{Op: impl.OpRec}}, {{Op: impl.OpIfNot}}, {{Op: impl.OpTry}}, {{Op: impl.OpPop}, {Op: impl.OpJump, A: 1}}, {{Op: impl.OpVar, A: 3000}}, {{Op: impl.OpDrop, A: 3000}},
		{{Op: impl.OpOk}}, {{Op: impl.OpNoArm}, {Op: impl.OpTry, A: 0}},
	} {
		if c := (impl.Code{Ins: list}); !impl.CodeOk(c) || impl.CodeText(c) == "" {
			t.Errorf("CodeOk is false for %s", codeText(c))
		}
	}
}

// TestCodeOkPats: all patterns are valid, whether an OpArm has them or not.
func TestCodeOkPats(t *testing.T) {
	check := func(what string, want bool, pats ...impl.Pat) {
		t.Helper()
		for _, list := range [][]impl.Ins{{{Op: impl.OpRet}}, {{Op: impl.OpArm, A: len(pats) - 1}, {Op: impl.OpRet}}, {{Op: impl.OpArm}, {Op: impl.OpRet}}} {
			right := want && (len(list) == 1 || len(pats) > 0)
			c := impl.Code{Ins: list, Pats: pats}
			if impl.CodeOk(c) != right || (impl.CodeText(c) != "") != right || codeIsRight(c) != right {
				t.Errorf("%s: CodeOk is %v for %s", what, impl.CodeOk(c), codeText(c))
			}
		}
	}
	good := somePats(t)
	check("no patterns", true)
	check("valid patterns", true, good...)
	check("many patterns", true, slices.Repeat(good, 2000)...)
	check("the largest pattern", true, impl.Pat{Nodes: chainPat("A", impl.MaxNodes-1, pnode(impl.PWild, 0, "")).Nodes})
	for what, nodes := range map[string][]impl.PNode{
		"no nodes": nil, "an unknown kind": {{}}, "another unknown kind": {{Kind: 7}}, "a number": {{Kind: impl.PWild, N: 1}}, "a text": {{Kind: impl.PUnit, S: "x"}}, "no name": {{Kind: impl.PVar}}, "a keyword": {{Kind: impl.PVar, S: "let"}},
		"MinInt": {{Kind: impl.PInt, N: impl.MinInt}}, "no pair": {pnode(impl.PCon, 0, "::", 1), pnode(impl.PWild, 0, "")}, "no child": {pnode(impl.PCon, 0, "::")}, "true with a child": {pnode(impl.PCon, 0, "true", 1), pnode(impl.PWild, 0, "")},
		"a name twice": {pnode(impl.PPair, 0, "", 1, 2), pnode(impl.PVar, 0, "x"), pnode(impl.PVar, 0, "x")}, "half a pair": {pnode(impl.PPair, 0, "", 1), pnode(impl.PWild, 0, "")}, "two patterns": {pnode(impl.PWild, 0, ""), pnode(impl.PWild, 0, "")},
		"another order": {pnode(impl.PPair, 0, "", 2, 1), pnode(impl.PWild, 0, ""), pnode(impl.PWild, 0, "")}, "itself": {pnode(impl.PCon, 0, "A", 0)}, "a far child": {pnode(impl.PCon, 0, "A", math.MaxInt)},
		"more than MaxNodes": chainPat("A", impl.MaxNodes, pnode(impl.PWild, 0, "")).Nodes,
	} {
		bad := impl.Pat{Nodes: nodes}
		check(what, false, bad)
		check(what, false, append([]impl.Pat{bad}, good...)...)
		check(what, false, append(slices.Clone(good), bad)...)
		check(what, false, good[0], bad, good[1])
	}
	if right := []impl.PNode{{Kind: impl.PInt, N: -impl.MaxInt}}; !impl.CodeOk(impl.Code{Ins: []impl.Ins{{Op: impl.OpArm}}, Pats: []impl.Pat{{Nodes: right}}}) {
		t.Error("the least number of a pattern is not valid")
	}
}

// someIns is an instruction of any kind, whose fields mostly are those that it
// uses.
func (g *lot) someIns(size int, pats int) impl.Ins {
	i := impl.Ins{Op: 1 + g.next(25)}
	for _, field := range fieldsOf(i.Op) {
		switch {
		case field == 'B':
			i.B = g.next(size)
		case field == 'S' && i.Op == impl.OpPrim:
			i.S = g.of("=", "<>", "<", "<=", "+", "-", "*", "/", "%", "^")
		case field == 'S' && i.Op == impl.OpGiven:
			i.S = g.of("print", "say", "read", "size")
		case field == 'S' && i.Op == impl.OpCon:
			i.S = [][]string{{"A", "true", "false", "[]"}, {"A", "Abc", "::", "B_1"}}[i.A][g.next(4)]
		case field == 'S':
			i.S = g.of("", "x", "a\n\"b", "\xff")
		case i.Op == impl.OpCon:
			i.A = g.next(2)
		case i.Op == impl.OpArm:
			i.A = g.next(max(pats, 1))
		case i.Op == impl.OpInt:
			i.A = g.number() * (1 - 2*g.next(2))
		case i.Op == impl.OpVar || i.Op == impl.OpDrop:
			i.A = []int{0, 1, 2, 7, impl.MaxCode}[g.next(5)]
		default:
			i.A = g.next(size)
		}
	}
	return i
}

// changeIns changes one field of an instruction.
func (g *lot) changeIns(i *impl.Ins) {
	numbers := []int{0, 1, 2, 3, 5, 8, -1, impl.MaxCode, impl.MaxCode + 1, impl.MaxInt, impl.MaxInt + 1, impl.MinInt, impl.MinInt - 1, math.MaxInt, math.MinInt}
	switch g.next(5) {
	case 0:
		i.Op = g.next(28) - 1
	case 1:
		i.B = numbers[g.next(len(numbers))]
	case 2:
		i.S = g.of("", "", "x", "print", "size", "A", "true", "[]", "::", "+", "^", "let", "é")
	default:
		i.A = numbers[g.next(len(numbers))]
	}
}

// TestCodeOkRandom compares CodeOk and CodeText with the rules for random code,
// some of which is changed.
func TestCodeOkRandom(t *testing.T) {
	counts := map[bool]int{}
	for seed := range uint32(30000) {
		g := &lot{seed: seed}
		c := impl.Code{}
		for range g.next(3) {
			names := 0
			c.Pats = append(c.Pats, impl.Pat{Nodes: g.pat(g.next(6), &names).nodes(nil)})
		}
		size := 1 + g.next(8)
		for range size {
			c.Ins = append(c.Ins, g.someIns(size, len(c.Pats)))
		}
		for range g.next(3) {
			g.changeIns(&c.Ins[g.next(size)])
		}
		if g.next(20) == 0 && len(c.Pats) > 0 {
			g.changePat(&c.Pats[g.next(len(c.Pats))])
		}
		want := codeIsRight(c)
		counts[want]++
		text := ""
		if want {
			text = secondText(c)
		}
		if impl.CodeOk(c) != want || impl.CodeText(c) != text {
			t.Fatalf("CodeOk is %v, not %v, CodeText is %q for %s", impl.CodeOk(c), want, impl.CodeText(c), codeText(c))
		}
	}
	if counts[true] < 5000 || counts[false] < 5000 {
		t.Errorf("code was valid and not valid so many times: %v", counts)
	}
}

// TestCodeOkChangedCode changes code that was compiled.
func TestCodeOkChangedCode(t *testing.T) {
	counts := map[bool]int{}
	for seed := range uint32(3000) {
		m := newTeller(seed)
		p, code, _ := impl.Parse(m.program(40))
		if code != 0 {
			continue
		}
		good, _ := impl.Compile(p)
		c := wholeCode(impl.Code{Ins: slices.Clip(good.Ins), Pats: slices.Clip(good.Pats)})
		for range 1 + m.next(3) {
			m.changeIns(&c.Ins[m.next(len(c.Ins))])
		}
		want := codeIsRight(c)
		counts[want]++
		if impl.CodeOk(c) != want || (impl.CodeText(c) != "") != want {
			t.Fatalf("CodeOk is %v, not %v, for %s", impl.CodeOk(c), want, codeText(c))
		}
	}
	if counts[true] < 100 || counts[false] < 1000 {
		t.Errorf("code was valid and not valid so many times: %v", counts)
	}
}
