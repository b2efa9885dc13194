package tests

import (
	"slices"
	"strings"
	"testing"

	"loop.example/g00395/impl"
)

// second infers types as chapter 7 says it, word for word, with the solver of
// unify_random_test.go: it applies the whole substitution at every step. Its
// errors are panics.
type second struct {
	p    impl.Program
	s    solver
	vars int
}

type fault struct {
	code int
	at   int
}

// known is a binding.
type known struct {
	name    string
	ty      impl.Ty
	generic []impl.TyItem
}

// secondCheck is CheckTypes.
func secondCheck(p impl.Program) (int, int) {
	if !impl.ProgramOk(p) {
		return 1, 0
	}
	names, cons := []string{"int", "bool", "string", "unit", "list"}, []string{}
	arities := map[string][]int{"int": {0}, "bool": {0}, "string": {0}, "unit": {0}, "list": {1}, "ref": {1}, "->": {2}, "*": {2}}
	for _, d := range p.Types {
		arities[d.Name] = append(arities[d.Name], d.Params)
	}
	for i, d := range p.Types {
		if slices.Contains(names, d.Name) {
			return 11, i
		}
		names = append(names, d.Name)
		unknown := false
		for _, c := range d.Cons {
			if slices.Contains(cons, c.Name) {
				return 12, i
			}
			cons = append(cons, c.Name)
			for _, item := range c.Arg.Items {
				unknown = unknown || item.Name != "" && !slices.Contains(arities[item.Name], item.Arity)
			}
		}
		if unknown {
			return 13, i
		}
	}
	return 0, 0
}

// secondInfer is Infer.
func secondInfer(p impl.Program) (ty impl.Ty, code int, at int) {
	if code, at := secondCheck(p); code != 0 {
		return impl.Ty{}, code, at
	}
	defer catch(&ty, &code, &at)
	s := &second{p: p}
	return s.finished(s.expr(0, nil)), 0, 0
}

// secondPats is PatsTy.
func secondPats(p impl.Program, l []impl.Pat) (ty impl.Ty, code int) {
	if code, _ := secondCheck(p); code != 0 || len(l) == 0 || slices.ContainsFunc(l, func(q impl.Pat) bool { return !impl.PatOk(q) }) {
		return impl.Ty{}, 1
	}
	at := 0
	defer catch(&ty, &code, &at)
	s := &second{p: p}
	names := []known{}
	first := s.pat(l[0], 0, 0, &names)
	for _, q := range l[1:] {
		s.equal(0, first, s.pat(q, 0, 0, &names))
	}
	return s.finished(first), 0
}

func catch(ty *impl.Ty, code *int, at *int) {
	if f, ok := recover().(fault); ok {
		*ty, *code, *at = impl.Ty{}, f.code, f.at
	}
}

// finished is the type of a program, with its variables in order.
func (s *second) finished(a impl.Ty) impl.Ty {
	a = s.limited(a, 0)
	order := map[int]int{}
	for _, item := range a.Items {
		if _, seen := order[item.Var]; !seen && item.Name == "" {
			order[item.Var] = len(order)
		}
	}
	return renamed(a, func(n int) int { return order[n] })
}

func (s *second) now(a impl.Ty) impl.Ty { return replacedItems(a, s.s.l) }

func (s *second) limited(a impl.Ty, at int) impl.Ty {
	a = s.now(a)
	if len(a.Items) > impl.MaxItems {
		panic(fault{26, at})
	}
	return a
}

func (s *second) fresh() impl.Ty {
	s.vars++
	return tyOf(tyVar(s.vars - 1))
}

func (s *second) equal(at int, a impl.Ty, b impl.Ty) {
	if code := s.s.solve(s.limited(a, at), s.limited(b, at)); code != 0 {
		panic(fault{22 + code, at})
	}
}

// around is a type constructor with arguments.
func around(name string, args ...impl.Ty) impl.Ty {
	items := []impl.TyItem{tyCon(name, len(args))}
	for _, a := range args {
		items = append(items, a.Items...)
	}
	return tyOf(items...)
}

// copied is a type with new variables in place of some.
func (s *second) copied(a impl.Ty, generic []impl.TyItem) impl.Ty {
	l := []impl.Sub{}
	for _, item := range generic {
		l = append(l, impl.Sub{Var: item.Var, Ty: s.fresh()})
	}
	return replacedItems(a, l)
}

// unbound are the variables of a type that the enclosing bindings do not have.
func (s *second) unbound(a impl.Ty, env []known) []impl.TyItem {
	list := []impl.TyItem{}
	for _, item := range s.now(a).Items {
		has := func(k known) bool { return slices.Contains(s.now(k.ty).Items, item) }
		if item.Name == "" && !slices.Contains(list, item) && !slices.ContainsFunc(env, has) {
			list = append(list, item)
		}
	}
	return list
}

func (s *second) look(name string, at int, env []known) impl.Ty {
	for _, k := range slices.Backward(env) {
		if k.name == name {
			return s.copied(s.now(k.ty), k.generic)
		}
	}
	given := map[string]string{"print": "-> int unit", "say": "-> string unit", "read": "-> unit int", "size": "-> string int"}
	if given[name] == "" {
		panic(fault{21, at})
	}
	return ty(given[name])
}

// declared is the type of a constructor and that of its argument.
func (s *second) declared(name string) (result impl.Ty, arg impl.Ty, found bool) {
	switch name {
	case "true", "false":
		return ty("bool"), impl.Ty{}, true
	case "[]":
		return ty("list 0"), impl.Ty{}, true
	case "::":
		return ty("list 0"), ty("* 0 list 0"), true
	}
	for _, d := range s.p.Types {
		for _, c := range d.Cons {
			if c.Name == name {
				return tyOf(append([]impl.TyItem{tyCon(d.Name, d.Params)}, []impl.TyItem{tyVar(0), tyVar(1)}[:d.Params]...)...), c.Arg, true
			}
		}
	}
	return impl.Ty{}, impl.Ty{}, false
}

func (s *second) con(name string, at int, kids []int, kid func(int) impl.Ty) impl.Ty {
	result, arg, found := s.declared(name)
	if !found {
		panic(fault{22, at})
	}
	if len(arg.Items) > 0 != (len(kids) > 0) {
		panic(fault{23, at})
	}
	l := []impl.Sub{{Var: 0, Ty: s.fresh()}, {Var: 1, Ty: s.fresh()}}
	if len(kids) > 0 {
		s.equal(at, kid(kids[0]), replacedItems(arg, l))
	}
	return replacedItems(result, l)
}

func (s *second) pat(q impl.Pat, i int, at int, names *[]known) impl.Ty {
	n := q.Nodes[i]
	kid := func(i int) impl.Ty { return s.pat(q, i, at, names) }
	switch n.Kind {
	case impl.PInt:
		return ty("int")
	case impl.PUnit:
		return ty("unit")
	case impl.PPair:
		first := kid(n.Kids[0])
		return around("*", first, kid(n.Kids[1]))
	case impl.PCon:
		return s.con(n.S, at, n.Kids, kid)
	}
	v := s.fresh()
	if n.Kind == impl.PVar {
		*names = append(*names, known{name: n.S, ty: v})
	}
	return v
}

func (s *second) isValue(i int) bool {
	n := s.p.Nodes[i]
	return slices.Contains([]int{impl.EInt, impl.EStr, impl.EUnit, impl.EVar, impl.EFun}, n.Kind) ||
		n.Kind == impl.EPair && s.isValue(n.Kids[0]) && s.isValue(n.Kids[1]) ||
		n.Kind == impl.ECon && (len(n.Kids) == 0 || s.isValue(n.Kids[0]))
}

func with(env []known, more ...known) []known { return slices.Concat(env, more) }

// binder is the type of a node that binds names.
func (s *second) binder(i int, env []known) impl.Ty {
	n := s.p.Nodes[i]
	switch n.Kind {
	case impl.EFun:
		a := s.fresh()
		body := s.expr(n.Kids[0], with(env, known{name: n.S, ty: a}))
		return s.limited(around("->", a, body), n.At)
	case impl.ELet:
		k := known{name: n.S, ty: s.expr(n.Kids[0], env)}
		if s.isValue(n.Kids[0]) {
			k.generic = s.unbound(k.ty, env)
		}
		return s.expr(n.Kids[1], with(env, k))
	case impl.ERec:
		v := s.fresh()
		s.equal(n.At, v, s.expr(n.Kids[0], with(env, known{name: n.S, ty: v})))
		return s.expr(n.Kids[1], with(env, known{n.S, v, s.unbound(v, env)}))
	case impl.ETry:
		first := s.expr(n.Kids[0], env)
		s.equal(n.At, first, s.expr(n.Kids[1], with(env, known{name: n.S, ty: ty("int")})))
		return first
	}
	matched := s.expr(n.Kids[0], env)
	bodies := []impl.Ty{}
	for j, q := range n.Pats {
		names := []known{}
		s.equal(n.At, s.pat(q, 0, n.At, &names), matched)
		bodies = append(bodies, s.expr(n.Kids[j+1], with(env, names...)))
		if j > 0 {
			s.equal(n.At, bodies[0], bodies[j])
		}
	}
	return bodies[0]
}

// expr is the type of a node.
func (s *second) expr(i int, env []known) impl.Ty {
	n := s.p.Nodes[i]
	kid := func(j int) impl.Ty { return s.expr(n.Kids[j], env) }
	switch n.Kind {
	case impl.EInt:
		return ty("int")
	case impl.EStr:
		return ty("string")
	case impl.EUnit:
		return ty("unit")
	case impl.EVar:
		return s.limited(s.look(n.S, n.At, env), n.At)
	case impl.ECon:
		return s.con(n.S, n.At, n.Kids, func(k int) impl.Ty { return s.expr(k, env) })
	case impl.ERef:
		return s.limited(around("ref", kid(0)), n.At)
	case impl.EFun, impl.ELet, impl.ERec, impl.EMatch, impl.ETry:
		return s.binder(i, env)
	}
	first, result := kid(0), s.fresh()
	switch n.Kind {
	case impl.EApp:
		s.equal(n.At, first, around("->", kid(1), result))
	case impl.EIf:
		s.equal(n.At, first, ty("bool"))
		result = kid(1)
		s.equal(n.At, result, kid(2))
	case impl.EPrim:
		operand := "int"
		if n.S == "^" {
			operand = "string"
		}
		other := kid(1)
		s.equal(n.At, first, ty(operand))
		s.equal(n.At, other, ty(operand))
		if result = ty(operand); strings.Contains("= <> <=", n.S) {
			result = ty("bool")
		}
	case impl.EPair:
		result = s.limited(around("*", first, kid(1)), n.At)
	case impl.ERaise:
		s.equal(n.At, first, ty("int"))
	case impl.EGet:
		s.equal(n.At, first, around("ref", result))
	case impl.ESet:
		s.equal(n.At, first, around("ref", kid(1)))
		result = ty("unit")
	case impl.ESeq:
		s.equal(n.At, first, ty("unit"))
		result = kid(1)
	}
	return result
}

// inferred is what Infer returns, after it has been compared with the second
// typer, and the type checked.
func inferred(t *testing.T, p impl.Program) (impl.Ty, int, int) {
	t.Helper()
	got, code, at := impl.Infer(p)
	want, wantCode, wantAt := secondInfer(p)
	if code != wantCode || at != wantAt || !sameTy(got, want) {
		t.Errorf("Infer is %s, %d and %d, not %s, %d and %d, for %s", brief(tyText(got)), code, at, brief(tyText(want)), wantCode, wantAt, impl.PrintProgram(p))
	}
	if code == 0 && (!impl.TyOk(got) || !namesInOrder(got) || !sameTy(impl.TyCanon(got), got)) {
		t.Errorf("the type is %s for %s", brief(tyText(got)), impl.PrintProgram(p))
	}
	if checkCode, _ := impl.CheckTypes(p); (checkCode != 0) != (code > 0 && code < 20) {
		t.Errorf("CheckTypes is %d, and Infer %d, for %s", checkCode, code, impl.PrintProgram(p))
	}
	return got, code, at
}

// checkTyped checks the type of a program.
func checkTyped(t *testing.T, text string, want string) {
	t.Helper()
	if got, code, at := inferred(t, parsed(t, text)); code != 0 || at != 0 || impl.PrintTy(got) != want {
		t.Errorf("%s has type %s, code %d at %d, not %s", brief(text), brief(impl.PrintTy(got)), code, at, brief(want))
	}
}

// checkFault checks the code and the offset of a program: the node at which
// the error is has its At at the mark @, which is removed.
func checkFault(t *testing.T, text string, want int) {
	t.Helper()
	before, after, marked := strings.Cut(text, "@")
	if !marked {
		t.Fatalf("no place is marked in %s", text)
	}
	got, code, at := inferred(t, parsed(t, before+after))
	if code != want || at != len(before) || len(got.Items) > 0 {
		t.Errorf("%s has type %s, code %d at %d, not %d at %d", brief(text), brief(impl.PrintTy(got)), code, at, want, len(before))
	}
}
