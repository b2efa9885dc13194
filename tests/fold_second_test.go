package tests

import (
	"maps"
	"math/big"
	"slices"
	"testing"

	"loop.example/g00395/impl"
)

// freeNames is the set of the names that are free in an expression.
func (d *draft) freeNames() map[string]bool {
	free := map[string]bool{}
	if d.Kind == impl.EVar {
		free[d.S] = true
	}
	for i, k := range d.kids {
		inner := k.freeNames()
		switch d.Kind {
		case impl.EFun, impl.ERec:
			delete(inner, d.S)
		case impl.ELet, impl.ETry:
			if i > 0 {
				delete(inner, d.S)
			}
		case impl.EMatch:
			if i > 0 {
				d.pats[i-1].removeNames(inner)
			}
		}
		maps.Copy(free, inner)
	}
	return free
}

func (d *patDraft) removeNames(names map[string]bool) {
	if d.Kind == impl.PVar {
		delete(names, d.S)
	}
	for _, k := range d.kids {
		k.removeNames(names)
	}
}

// secondFold is Fold. It makes new trees from the leaves to the root, with
// arithmetic of its own.
func secondFold(p impl.Program) impl.Program {
	d := draftAt(p, 0, func(at int, d *draft) *draft {
		d.At = p.Nodes[at].At
		return d.refolded()
	})
	return impl.Program{Types: cloned(p).Types, Nodes: d.nodes(nil)}
}

// refolded is what becomes of a node whose children are folded.
func (d *draft) refolded() *draft {
	isCon := func(k *draft, name string) bool { return k.Kind == impl.ECon && k.S == name }
	switch {
	case d.Kind == impl.EPrim:
		return d.result()
	case d.Kind == impl.EIf && isCon(d.kids[0], "true"):
		return d.kids[1]
	case d.Kind == impl.EIf && isCon(d.kids[0], "false"):
		return d.kids[2]
	case d.Kind == impl.ESeq && d.kids[0].Kind == impl.EUnit:
		return d.kids[1]
	case d.Kind == impl.ELet && d.kids[0].isPlain() && !d.kids[1].freeNames()[d.S]:
		return d.kids[1]
	}
	return d
}

func (d *draft) isPlain() bool {
	kinds := []int{impl.EInt, impl.EStr, impl.EUnit, impl.EFun}
	return slices.Contains(kinds, d.Kind) || d.Kind == impl.ECon && len(d.kids) == 0
}

func (d *draft) result() *draft {
	a, b := d.kids[0], d.kids[1]
	switch {
	case a.Kind == impl.EStr && b.Kind == impl.EStr && d.S == "^" && len(a.S+b.S) <= 1000:
		return &draft{Node: impl.Node{Kind: impl.EStr, At: d.At, S: a.S + b.S}}
	case a.Kind != impl.EInt || b.Kind != impl.EInt || d.S == "^":
		return d
	}
	x, y := big.NewInt(int64(a.N)), big.NewInt(int64(b.N))
	if holds, ok := map[string]bool{"=": x.Cmp(y) == 0, "<>": x.Cmp(y) != 0, "<": x.Cmp(y) < 0, "<=": x.Cmp(y) <= 0}[d.S]; ok {
		return &draft{Node: impl.Node{Kind: impl.ECon, At: d.At, S: map[bool]string{true: "true", false: "false"}[holds]}}
	}
	n := exact(d.S, x, y)
	if n == nil || n.Sign() < 0 {
		return d
	}
	return &draft{Node: impl.Node{Kind: impl.EInt, At: d.At, N: int(n.Int64())}}
}

// exact is the number for + - * / % in 63 bits, or nil if there is none.
func exact(sign string, x *big.Int, y *big.Int) *big.Int {
	n := new(big.Int)
	switch {
	case sign == "+":
		n.Add(x, y)
	case sign == "-":
		n.Sub(x, y)
	case sign == "*":
		n.Mul(x, y)
	case y.Sign() == 0:
		return nil
	case sign == "/":
		n.Quo(x, y)
	default:
		n.Rem(x, y)
	}
	half := new(big.Int).Lsh(big.NewInt(1), 62)
	n.Add(n, half).Mod(n, new(big.Int).Lsh(half, 1))
	return n.Sub(n, half)
}

// folded is what Fold returns, after it has been compared with secondFold and
// folded once more.
func folded(t *testing.T, p impl.Program) impl.Program {
	t.Helper()
	got := impl.Fold(p)
	if !impl.ProgramOk(p) {
		if len(got.Types) > 0 || len(got.Nodes) > 0 || impl.Weight(p) != -1 {
			t.Fatalf("Fold has %d nodes and %d types, Weight is %d for a program that is not valid", len(got.Nodes), len(got.Types), impl.Weight(p))
		}
		return got
	}
	if !impl.ProgramOk(got) {
		t.Fatalf("the folded program is not valid for %s", impl.PrintProgram(p))
	}
	text := shown(t, got)
	if want := shown(t, secondFold(p)); text != want {
		t.Fatalf("Fold is\n%s, not\n%s, for %s", brief(text), brief(want), brief(impl.PrintProgram(p)))
	}
	if again := shown(t, impl.Fold(got)); again != text {
		t.Fatalf("Fold of Fold is\n%s, not\n%s, for %s", brief(again), brief(text), brief(impl.PrintProgram(p)))
	}
	if impl.Weight(p) != len(p.Nodes) || impl.Weight(got) != len(got.Nodes) || len(got.Nodes) > len(p.Nodes) {
		t.Fatalf("Weight is %d and %d for %d and %d nodes", impl.Weight(p), impl.Weight(got), len(p.Nodes), len(got.Nodes))
	}
	return got
}

// checkFold checks how a folded program is printed, and that it ends as the
// original.
func checkFold(t *testing.T, text string, want string) {
	t.Helper()
	p := parsed(t, text)
	q := folded(t, p)
	if got := impl.PrintProgram(q); got != want {
		t.Errorf("%s is folded to %s, not %s", brief(text), brief(got), brief(want))
	}
	checkFoldRuns(t, p, q, []int{1, 2}, impl.MaxSteps)
	checkFoldTy(t, p, q)
}

// checkNoFold checks that a folded program is the original, with all offsets.
func checkNoFold(t *testing.T, text string) {
	t.Helper()
	p := parsed(t, text)
	if got, want := shown(t, folded(t, p)), shown(t, p); got != want {
		t.Errorf("%s is folded to %s, not %s", brief(text), brief(got), brief(want))
	}
}

// checkFoldAt checks a folded program with its offsets: the text is that of
// shown.
func checkFoldAt(t *testing.T, text string, want string) {
	t.Helper()
	if got := shown(t, folded(t, parsed(t, text))); got != want {
		t.Errorf("%s is folded to\n%s, not\n%s", text, got, want)
	}
}

// checkFoldRuns evaluates a program p and its folded form q. If p ends within
// the limit, q ends in the same way, in at most as many steps; otherwise q
// comes at least as far. It returns the outcome of p and the number of steps
// that q takes less.
func checkFoldRuns(t *testing.T, p impl.Program, q impl.Program, inputs []int, most int) (impl.Outcome, int) {
	t.Helper()
	a, b := impl.Eval(p, inputs, most), impl.Eval(q, inputs, most)
	if a.Kind == impl.OutSteps && !beginsWith(b.Trace, a.Trace) ||
		a.Kind != impl.OutSteps && (b.Kind != a.Kind || b.N != a.N || !sameLines(a.Trace, b.Trace)) || b.Steps > a.Steps {
		t.Fatalf("with at most %d steps, the outcome is %s, that of the folded program is %s, for %s", most, outcomeText(a), outcomeText(b), brief(impl.PrintProgram(p)))
	}
	return a, a.Steps - b.Steps
}

// checkFoldTy: if p has a type, that of q is the same or a more general one.
// It returns whether there is a type, and whether it is more general.
func checkFoldTy(t *testing.T, p impl.Program, q impl.Program) (bool, bool) {
	t.Helper()
	ty, code, _ := impl.Infer(p)
	if code != 0 {
		return false, false
	}
	got, code, at := impl.Infer(q)
	if code != 0 || !impl.Fits(got, ty) {
		t.Fatalf("the type is %s, that of the folded program is %s with code %d at %d, for %s", tyText(ty), tyText(got), code, at, brief(impl.PrintProgram(p)))
	}
	return true, !sameTy(got, ty)
}
