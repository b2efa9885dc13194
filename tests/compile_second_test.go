package tests

import (
	"fmt"
	"slices"
	"strings"
	"testing"

	"loop.example/g00395/impl"
)

// length is the number of the instructions of an expression.
func (d *draft) length() int {
	total := 1
	switch d.Kind {
	case impl.ELet, impl.EIf:
		total = 2
	case impl.EFun:
		total = 3
	case impl.ETry:
		total = 4
	case impl.EMatch:
		total = 1 + 3*len(d.pats)
	}
	for _, k := range d.kids {
		total += k.length()
	}
	return total
}

// secondCompiler compiles as chapter 11 says it. It knows every address ahead
// of the instructions, from the lengths of the parts.
type secondCompiler struct {
	pats    []impl.Pat
	unknown bool
}

// secondCompile is Compile.
func secondCompile(p impl.Program) (impl.Code, bool) {
	if !impl.ProgramOk(p) {
		return impl.Code{}, false
	}
	c := &secondCompiler{}
	d := draftAt(p, 0, func(_ int, d *draft) *draft { return d })
	list := append(c.code(d, 0, nil), impl.Ins{Op: impl.OpRet})
	if c.unknown || len(list) > impl.MaxCode {
		return impl.Code{}, false
	}
	return impl.Code{Ins: list, Pats: c.pats}, true
}

// inside are bindings with one more, which is the innermost one and the first.
func inside(env []string, name string) []string { return append([]string{name}, env...) }

// code has the instructions of an expression that starts at an address.
func (c *secondCompiler) code(d *draft, at int, env []string) []impl.Ins {
	ins := func(op int, a int) []impl.Ins { return []impl.Ins{{Op: op, A: a}} }
	switch d.Kind {
	case impl.EVar:
		return []impl.Ins{c.name(d.S, env)}
	case impl.EFun:
		return c.function(impl.OpFun, d, at, env)
	case impl.ERec:
		function := c.function(impl.OpRec, d.kids[0], at, inside(env, d.S))
		return slices.Concat(function, c.code(d.kids[1], at+len(function), inside(env, d.S)), ins(impl.OpDrop, 1))
	case impl.ELet:
		second := at + d.kids[0].length() + 1
		return slices.Concat(c.code(d.kids[0], at, env), ins(impl.OpBind, 0), c.code(d.kids[1], second, inside(env, d.S)), ins(impl.OpDrop, 1))
	case impl.ESeq:
		second := at + d.kids[0].length() + 1
		return slices.Concat(c.code(d.kids[0], at, env), ins(impl.OpPop, 0), c.code(d.kids[1], second, env))
	case impl.EIf:
		second := at + d.kids[0].length() + 1
		third := second + d.kids[1].length() + 1
		return slices.Concat(c.code(d.kids[0], at, env), ins(impl.OpIfNot, third), c.code(d.kids[1], second, env), ins(impl.OpJump, at+d.length()), c.code(d.kids[2], third, env))
	case impl.ETry:
		second := at + d.kids[0].length() + 3
		return slices.Concat(ins(impl.OpTry, second), c.code(d.kids[0], at+1, env), ins(impl.OpOk, 0), ins(impl.OpJump, at+d.length()), c.code(d.kids[1], second, inside(env, d.S)), ins(impl.OpDrop, 1))
	case impl.EMatch:
		return c.match(d, at, env)
	}
	list := []impl.Ins{}
	for _, k := range d.kids {
		list = append(list, c.code(k, at+len(list), env)...)
	}
	return append(list, map[int]impl.Ins{
		impl.EInt: {Op: impl.OpInt, A: d.N}, impl.EStr: {Op: impl.OpStr, S: d.S}, impl.EUnit: {Op: impl.OpUnit}, impl.ECon: {Op: impl.OpCon, A: len(d.kids), S: d.S}, impl.EApp: {Op: impl.OpCall},
		impl.EPrim: {Op: impl.OpPrim, S: d.S}, impl.EPair: {Op: impl.OpPair}, impl.ERaise: {Op: impl.OpRaise}, impl.ERef: {Op: impl.OpRef}, impl.EGet: {Op: impl.OpGet}, impl.ESet: {Op: impl.OpSet},
	}[d.Kind])
}

func (c *secondCompiler) name(name string, env []string) impl.Ins {
	if count := slices.Index(env, name); count >= 0 {
		return impl.Ins{Op: impl.OpVar, A: count}
	}
	if !slices.Contains([]string{"print", "say", "read", "size"}, name) {
		c.unknown = true
	}
	return impl.Ins{Op: impl.OpGiven, S: name}
}

func (c *secondCompiler) function(op int, d *draft, at int, env []string) []impl.Ins {
	start := []impl.Ins{{Op: op, A: at + 2}, {Op: impl.OpJump, A: at + d.length()}}
	return append(append(start, c.code(d.kids[0], at+2, inside(env, d.S))...), impl.Ins{Op: impl.OpRet})
}

func (c *secondCompiler) match(d *draft, at int, env []string) []impl.Ins {
	end := at + d.length()
	list := c.code(d.kids[0], at, env)
	for i, q := range d.pats {
		inner := env
		for _, name := range namesOf(q) {
			inner = inside(inner, name)
		}
		arm := at + len(list)
		list = append(list, impl.Ins{Op: impl.OpArm, A: len(c.pats), B: arm + 3 + d.kids[i+1].length()})
		c.pats = append(c.pats, impl.Pat{Nodes: q.nodes(nil)})
		list = append(list, c.code(d.kids[i+1], arm+1, inner)...)
		list = append(list, impl.Ins{Op: impl.OpDrop, A: len(namesOf(q))}, impl.Ins{Op: impl.OpJump, A: end})
	}
	return append(list, impl.Ins{Op: impl.OpNoArm})
}

// opWords are the names of the Ops, the first of which is 1.
var opWords = strings.Fields("int str unit con pair var given fun rec call ret jump ifnot bind drop prim raise try ok arm noarm ref get set pop")

// fieldsOf are the letters of the fields that an Op uses.
func fieldsOf(op int) string {
	switch opWords[op-1] {
	case "int", "var", "fun", "rec", "jump", "ifnot", "drop", "try":
		return "A"
	case "con":
		return "AS"
	case "arm":
		return "AB"
	case "str", "given", "prim":
		return "S"
	}
	return ""
}

// secondText is CodeText of valid code.
func secondText(c impl.Code) string {
	text := ""
	for at, i := range c.Ins {
		text += fmt.Sprint(at) + " " + opWords[i.Op-1]
		for _, field := range fieldsOf(i.Op) {
			s := i.S
			if i.Op == impl.OpStr {
				s = impl.Quote(s)
			}
			text += " " + map[rune]string{'A': fmt.Sprint(i.A), 'B': fmt.Sprint(i.B), 'S': s}[field]
		}
		text += "\n"
	}
	return text
}

// codeText has all fields of code, whether it is valid or not.
func codeText(c impl.Code) string { return fmt.Sprintf("%v with %s", c.Ins, patTexts(c.Pats)) }

func sameCode(a impl.Code, b impl.Code) bool {
	sameNode := func(m impl.PNode, n impl.PNode) bool {
		return m.Kind == n.Kind && m.N == n.N && m.S == n.S && slices.Equal(m.Kids, n.Kids)
	}
	samePat := func(q impl.Pat, r impl.Pat) bool { return slices.EqualFunc(q.Nodes, r.Nodes, sameNode) }
	return slices.Equal(a.Ins, b.Ins) && slices.EqualFunc(a.Pats, b.Pats, samePat)
}

// countsFar reports whether a name has more than MaxCode bindings between it
// and its own. Only then is code that was compiled not valid.
func countsFar(c impl.Code) bool {
	return slices.ContainsFunc(c.Ins, func(i impl.Ins) bool { return i.Op == impl.OpVar && i.A > impl.MaxCode })
}

// compiled is what Compile returns, after it has been compared with
// secondCompile. It ends with an OpRet, is valid and is printed with a line for
// every instruction.
func compiled(t *testing.T, p impl.Program) (impl.Code, bool) {
	t.Helper()
	got, ok := impl.Compile(p)
	want, wanted := secondCompile(p)
	if ok != wanted || !sameCode(got, want) {
		t.Fatalf("Compile is %v with\n%s, not %v with\n%s, for %s", ok, codeText(got), wanted, codeText(want), brief(impl.PrintProgram(p)))
	}
	text := impl.CodeText(got)
	if !ok {
		if got.Ins != nil || got.Pats != nil || impl.CodeOk(got) || text != "" {
			t.Fatalf("Compile is false with %s", codeText(got))
		}
		return got, false
	}
	count, valid := len(got.Ins), !countsFar(got)
	if impl.CodeOk(got) != valid || codeIsRight(got) != valid || got.Ins[count-1].Op != impl.OpRet {
		t.Fatalf("CodeOk is not %v, or the code ends without OpRet: %s, for %s", valid, codeText(got), brief(impl.PrintProgram(p)))
	}
	if valid && (text != secondText(want) || strings.Count(text, "\n") != count) || !valid && text != "" {
		t.Fatalf("CodeText is %q, not %q", text, secondText(want))
	}
	// The most that nodes can add is 3 for a function, or 4 for an arm.
	if n := len(p.Nodes); count > max(3*n-1, 4*n-5) {
		t.Fatalf("there are %d instructions for %d nodes: %s", count, n, brief(impl.PrintProgram(p)))
	}
	return got, true
}

// checkCode checks the lines of CodeText, which the text has separated by
// semicolons, without the last one, an OpRet.
func checkCode(t *testing.T, text string, want string) {
	t.Helper()
	c, ok := compiled(t, parsed(t, text))
	if !ok {
		t.Errorf("%s is not compiled", text)
		return
	}
	want = strings.ReplaceAll(want, "; ", "\n") + "\n" + impl.NumText(len(c.Ins)-1) + " ret\n"
	if got := impl.CodeText(c); got != want {
		t.Errorf("%s is compiled to\n%s, not\n%s", text, got, want)
	}
}

// checkNoCode checks that nothing is returned for a program.
func checkNoCode(t *testing.T, what string, p impl.Program) {
	t.Helper()
	if c, ok := impl.Compile(p); ok || c.Ins != nil || c.Pats != nil {
		t.Errorf("%s: Compile is %v with %s", what, ok, codeText(c))
	}
}

// insIsRight reports whether an instruction may be in code of this size with so
// many patterns.
func insIsRight(i impl.Ins, size int, pats int) bool {
	if i.Op < 1 || i.Op > len(opWords) {
		return false
	}
	most, word := 0, opWords[i.Op-1]
	switch word {
	case "int":
		if i.A < 0 {
			i.A = -1 - i.A
		}
		most = impl.MaxInt
	case "con":
		most = 1
	case "var", "drop":
		most = impl.MaxCode
	case "fun", "rec", "jump", "ifnot", "try":
		most = size - 1
	case "arm":
		most = pats - 1
	}
	mostB := 0
	if word == "arm" {
		mostB = size - 1
	}
	return i.A >= 0 && i.A <= most && i.B >= 0 && i.B <= mostB && insTextIsRight(word, i)
}

func insTextIsRight(word string, i impl.Ins) bool {
	switch word {
	case "str":
		return true
	case "given":
		return slices.Contains([]string{"print", "say", "read", "size"}, i.S)
	case "prim":
		return isOperator(i.S)
	case "con":
		m := conMakeup(i.S)
		return m.s(i.S) && slices.Contains(m.counts, i.A)
	}
	return i.S == ""
}

// codeIsRight is CodeOk.
func codeIsRight(c impl.Code) bool {
	for _, i := range c.Ins {
		if !insIsRight(i, len(c.Ins), len(c.Pats)) {
			return false
		}
	}
	for _, q := range c.Pats {
		if !patIsRight(q) {
			return false
		}
	}
	return len(c.Ins) >= 1 && len(c.Ins) <= impl.MaxCode
}
