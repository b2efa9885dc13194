package tests

import (
	"strings"
	"testing"

	"loop.example/g00395/impl"
)

// node is a draft with these children.
func node(kind int, s string, kids ...*draft) *draft {
	return &draft{Node: impl.Node{Kind: kind, S: s}, kids: kids}
}

// arms is an EMatch with a pattern that binds nothing for every arm.
func arms(first *draft, bodies ...*draft) *draft {
	d := node(impl.EMatch, "", append([]*draft{first}, bodies...)...)
	for range bodies {
		d.pats = append(d.pats, &patDraft{PNode: impl.PNode{Kind: impl.PWild}})
	}
	return d
}

// checkDeepForm nests a form in itself up to MaxDepth and once more. A form
// adds this many to the depth, as it is printed; another one around it makes
// up for what is left.
func checkDeepForm(t *testing.T, adds int, form func(*draft) *draft) {
	t.Helper()
	for _, depth := range []int{impl.MaxDepth - 1, impl.MaxDepth, impl.MaxDepth + 1, impl.MaxDepth + 2} {
		d := node(impl.EUnit, "")
		for d.depth(0)+adds <= depth {
			d = form(d)
		}
		for d.depth(0) < depth {
			d = node(impl.EGet, "", d)
		}
		want := 0
		if depth > impl.MaxDepth {
			want = 9
		}
		if code := checkWhole(t, whole{expr: d}); code != want {
			t.Errorf("code %d for depth %d of %s", code, depth, brief(d.printed()))
		}
	}
}

func TestPrintedExprTooDeep(t *testing.T) {
	leaf := node(impl.EVar, "y")
	for _, kind := range []int{impl.EGet, impl.ERef, impl.ERaise} {
		checkDeepForm(t, 1, func(d *draft) *draft { return node(kind, "", d) })
	}
	for _, kind := range []int{impl.EApp, impl.EPair, impl.ESet} {
		checkDeepForm(t, 1, func(d *draft) *draft { return node(kind, "", d, leaf) })
		checkDeepForm(t, 1, func(d *draft) *draft { return node(kind, "", leaf, d) })
	}
	for _, op := range []string{"+", "*", "=", "^"} {
		checkDeepForm(t, 1, func(d *draft) *draft { return node(impl.EPrim, op, d, leaf) })
		checkDeepForm(t, 1, func(d *draft) *draft { return node(impl.EPrim, op, leaf, d) })
	}
	checkDeepForm(t, 1, func(d *draft) *draft { return node(impl.ECon, "A", d) })
	checkDeepForm(t, 1, func(d *draft) *draft { return node(impl.ECon, "::", node(impl.EPair, "", leaf, d)) })
	checkDeepForm(t, 1, func(d *draft) *draft { return node(impl.ECon, "::", node(impl.EPair, "", d, leaf)) })
	checkDeepForm(t, 1, func(d *draft) *draft { return node(impl.ESeq, "", d, node(impl.EUnit, "")) })
	checkDeepForm(t, 2, func(d *draft) *draft { return node(impl.ESeq, "", leaf, d) })
	checkDeepForm(t, 2, func(d *draft) *draft { return node(impl.EFun, "x", d) })
	for _, kind := range []int{impl.ELet, impl.ETry} {
		checkDeepForm(t, 2, func(d *draft) *draft { return node(kind, "x", d, leaf) })
		checkDeepForm(t, 2, func(d *draft) *draft { return node(kind, "x", leaf, d) })
	}
	checkDeepForm(t, 2, func(d *draft) *draft { return node(impl.ERec, "f", node(impl.EFun, "x", d), leaf) })
	checkDeepForm(t, 2, func(d *draft) *draft { return node(impl.ERec, "f", node(impl.EFun, "x", leaf), d) })
	checkDeepForm(t, 2, func(d *draft) *draft { return node(impl.EIf, "", d, leaf, leaf) })
	checkDeepForm(t, 2, func(d *draft) *draft { return node(impl.EIf, "", leaf, d, leaf) })
	checkDeepForm(t, 2, func(d *draft) *draft { return node(impl.EIf, "", leaf, leaf, d) })
	checkDeepForm(t, 2, func(d *draft) *draft { return arms(d, leaf) })
	checkDeepForm(t, 2, func(d *draft) *draft { return arms(leaf, d) })
	checkDeepForm(t, 2, func(d *draft) *draft { return arms(leaf, leaf, d) })
}

// TestParsedButPrintedTooDeep: what is flat in a text may be deep as it is
// printed. The error is at the first token that is nested too deeply.
func TestParsedButPrintedTooDeep(t *testing.T) {
	p := parsed(t, strings.Repeat("!", impl.MaxDepth)+"x")
	checkPrinted(t, p, layer{"(! ", ")"}.around(impl.MaxDepth, "x"))
	p = parsed(t, strings.Repeat("!", impl.MaxDepth+1)+"x")
	text := layer{"(! ", ")"}.around(impl.MaxDepth+1, "x")
	if got := impl.PrintProgram(p); got != text {
		t.Errorf("PrintProgram is %s", brief(got))
	}
	checkParseError(t, text, 9, 3*impl.MaxDepth+1)
	checkParseError(t, remark+text, 9, len(remark)+3*impl.MaxDepth+1)
	p = parsed(t, "match 0 with "+strings.Repeat("A ", impl.MaxDepth)+"x -> 0 end")
	checkPrinted(t, p, "(match 0 with "+layer{"(A ", ")"}.around(impl.MaxDepth, "x")+" -> 0 end)")
	p = parsed(t, "match 0 with "+strings.Repeat("A ", impl.MaxDepth+1)+"x -> 0 end")
	checkParseError(t, impl.PrintProgram(p), 9, len("(match 0 with (")+3*impl.MaxDepth)
	p = parsed(t, "type t = A of "+strings.Repeat("int -> ", impl.MaxDepth/2+1)+"int; 0")
	checkParseError(t, impl.PrintProgram(p), 9, len("type t = A of (")+len("(int -> ")*impl.MaxDepth/2)
	p = parsed(t, "type t = A of int"+strings.Repeat(" list", impl.MaxDepth)+"; 0")
	checkPrinted(t, p, "type t = A of "+layer{"(", ") list"}.around(impl.MaxDepth, "int")+"; 0")
	p = parsed(t, "type t = A of int"+strings.Repeat(" list", impl.MaxDepth+1)+"; 0")
	checkParseError(t, impl.PrintProgram(p), 9, len("type t = A of (")+impl.MaxDepth)
}

func TestPrintedTooLong(t *testing.T) {
	for _, over := range []int{-1, 0, 1} {
		s := strings.Repeat("a", impl.MaxText-len(`(! "\"\\")`)+over)
		d := node(impl.EGet, "", node(impl.EStr, s+"\"\\"))
		want := `(! "` + s + `\"\\")`
		if len(want) != impl.MaxText+over {
			t.Fatalf("%d bytes", len(want))
		}
		p := whole{expr: d}.program()
		if got := impl.PrintProgram(p); got != want || !impl.ProgramOk(p) {
			t.Errorf("PrintProgram is %s", brief(got))
		}
		if over > 0 {
			checkParseError(t, want, 1, 0)
			continue
		}
		if q := parsed(t, want); !impl.SameProgram(p, q) {
			t.Errorf("%s is parsed as another program", brief(want))
		}
	}
	long := strings.Repeat("\x00", impl.MaxText)
	p := whole{expr: node(impl.EStr, long)}.program()
	if got := impl.PrintProgram(p); got != `"`+strings.Repeat(`\x00`, impl.MaxText)+`"` {
		t.Errorf("PrintProgram is %s", brief(got))
	}
	// The parentheses make it longer than the text that was parsed.
	p = parsed(t, strings.Repeat("abcdefghijkl*", impl.MaxNodes/2-1)+"x")
	want := strings.Repeat("(", impl.MaxNodes/2-1) + "abcdefghijkl" + strings.Repeat(" * abcdefghijkl)", impl.MaxNodes/2-2) + " * x)"
	if got := impl.PrintProgram(p); got != want {
		t.Errorf("PrintProgram is %s", brief(got))
	}
	checkParseError(t, want, 1, 0)
}
