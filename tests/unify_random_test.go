package tests

import (
	"slices"
	"strconv"
	"testing"

	"loop.example/g00395/impl"
)

// cut splits a list of items behind its first type.
func cut(items []impl.TyItem) ([]impl.TyItem, []impl.TyItem) {
	due := 1
	for at, item := range items {
		due += item.Arity - 1
		if due == 0 {
			return items[:at+1], items[at+1:]
		}
	}
	return items, nil
}

// solver unifies as chapter 6 says it, word for word: it applies the whole
// substitution to both types at every step.
type solver struct{ l []impl.Sub }

func (s *solver) solve(x impl.Ty, y impl.Ty) int {
	x, y = replacedItems(x, s.l), replacedItems(y, s.l)
	if sameTy(x, y) && x.Items[0].Name == "" {
		return 0
	}
	if x.Items[0].Name != "" && y.Items[0].Name != "" {
		return s.solveArgs(x, y)
	}
	if x.Items[0].Name != "" || y.Items[0].Name == "" && y.Items[0].Var > x.Items[0].Var {
		x, y = y, x
	}
	if slices.Contains(y.Items, x.Items[0]) {
		return 3
	}
	added := impl.Sub{Var: x.Items[0].Var, Ty: y}
	for i := range s.l {
		s.l[i].Ty = replacedItems(s.l[i].Ty, []impl.Sub{added})
	}
	s.l = append(s.l, added)
	slices.SortFunc(s.l, func(a impl.Sub, b impl.Sub) int { return a.Var - b.Var })
	if slices.ContainsFunc(s.l, func(a impl.Sub) bool { return len(a.Ty.Items) > impl.MaxItems }) {
		return 4
	}
	return 0
}

func (s *solver) solveArgs(x impl.Ty, y impl.Ty) int {
	if x.Items[0] != y.Items[0] {
		return 2
	}
	first, second := x.Items[1:], y.Items[1:]
	for range x.Items[0].Arity {
		var a, b []impl.TyItem
		a, first = cut(first)
		b, second = cut(second)
		if code := s.solve(tyOf(a...), tyOf(b...)); code != 0 {
			return code
		}
	}
	return 0
}

// checkSolved compares Unify with the solver and returns its code.
func checkSolved(t *testing.T, a impl.Ty, b impl.Ty) int {
	t.Helper()
	s := solver{}
	code := s.solve(a, b)
	if code != 0 {
		s.l = nil
	}
	checkUnifyTys(t, a, b, code, s.l)
	checkUnifyTys(t, b, a, code, s.l)
	return code
}

// smallTys are all types of at most so many items.
func smallTys(most int, leaves ...string) []string {
	bySize := [][]string{nil, leaves}
	for size := 2; size <= most; size++ {
		list := []string{}
		for _, inner := range bySize[size-1] {
			list = append(list, "list "+inner)
		}
		for first := 1; first < size-1; first++ {
			for _, a := range bySize[first] {
				for _, b := range bySize[size-1-first] {
					list = append(list, "* "+a+" "+b)
				}
			}
		}
		bySize = append(bySize, list)
	}
	return slices.Concat(bySize...)
}

// TestUnifyAllSmallTypes compares Unify with the solver for all pairs of small
// types.
func TestUnifyAllSmallTypes(t *testing.T) {
	counts := [5]int{}
	list := smallTys(4, "0", "1", "2", "int", "bool")
	for _, a := range list {
		for _, b := range list {
			counts[checkSolved(t, ty(a), ty(b))]++
			if t.Failed() {
				return
			}
		}
	}
	if counts[0] < 500 || counts[2] < 500 || counts[3] < 500 {
		t.Errorf("the codes occur so many times: %v", counts)
	}
}

// grounds are the substitutions of 0, 1 and 2 by small types without
// variables.
func grounds() [][]impl.Sub {
	list := [][]impl.Sub{}
	parts := smallTys(3, "int", "bool")
	for _, a := range parts {
		for _, b := range parts {
			for _, c := range parts {
				list = append(list, subs("0 = "+a+", 1 = "+b+", 2 = "+c))
			}
		}
	}
	return list
}

// TestUnifiersAreMostGeneral: whatever makes two types equal also makes every
// variable equal to what replaces it.
func TestUnifiersAreMostGeneral(t *testing.T) {
	all := grounds()
	list := smallTys(3, "0", "1", "2", "int")
	equal := 0
	for _, a := range list {
		for _, b := range list {
			x, y := ty(a), ty(b)
			l, code := impl.Unify(x, y)
			for _, g := range all {
				if !sameTy(replacedItems(x, g), replacedItems(y, g)) {
					continue
				}
				equal++
				apart := func(s impl.Sub) bool {
					return !sameTy(replacedItems(tyOf(tyVar(s.Var)), g), replacedItems(s.Ty, g))
				}
				if code != 0 || slices.ContainsFunc(l, apart) {
					t.Fatalf("Unify of %s and %s is %d and %v, but %v makes them equal", a, b, code, l, g)
				}
			}
		}
	}
	if equal < 10000 {
		t.Errorf("types were equal only %d times", equal)
	}
}

// opened is a type with some of its parts replaced by variables. The same part
// tends to be replaced by the same variable.
func (g *lot) opened(a impl.Ty, vars int, seen map[string]int) impl.Ty {
	items := []impl.TyItem{}
	for rest := a.Items; len(rest) > 0; {
		part, behind := cut(rest)
		if g.next(6) == 0 && len(items) > 0 {
			v, known := seen[tyText(tyOf(part...))]
			if !known || g.next(20) == 0 {
				v = g.next(vars)
				seen[tyText(tyOf(part...))] = v
			}
			items = append(items, tyVar(v))
			rest = behind
		} else {
			items = append(items, rest[0])
			rest = rest[1:]
		}
	}
	return tyOf(items...)
}

// TestUnifyOpenedTypes compares Unify with the solver for pairs of types that
// were made from one.
func TestUnifyOpenedTypes(t *testing.T) {
	counts := [5]int{}
	for seed := range uint32(6000) {
		g := &lot{seed: seed}
		whole := g.randomTy(80, []int{0, 0, 3}[g.next(3)])
		vars := 3 + g.next(20)
		seen := map[string]int{}
		counts[checkSolved(t, g.opened(whole, vars, seen), g.opened(whole, vars, seen))]++
		if t.Failed() {
			return
		}
	}
	if counts[0] < 1000 || counts[2] < 300 || counts[3] < 100 {
		t.Errorf("the codes occur so many times: %v", counts)
	}
}

// TestUnifyTuples compares Unify with the solver for a list of variables and
// one of types, which grow while they replace one another.
func TestUnifyTuples(t *testing.T) {
	counts := [5]int{}
	for seed := range uint32(6000) {
		g := &lot{seed: seed}
		size, vars := 4+g.next(18), 3+g.next(6)
		a, b := "0", "0"
		for i := range vars {
			v := strconv.Itoa(i)
			if g.next(12) == 0 {
				v = strconv.Itoa(g.next(vars))
			}
			a, b = "* "+v+" "+a, "* "+g.part(size, i, vars)+" "+b
			if g.next(2) == 0 {
				a, b = b, a
			}
		}
		counts[checkSolved(t, ty(a), ty(b))]++
		if t.Failed() {
			return
		}
	}
	if counts[0] < 500 || counts[2] < 300 || counts[3] < 300 || counts[4] < 300 {
		t.Errorf("the codes occur so many times: %v", counts)
	}
}

// part is the text of a type with variables that are mostly less than one, or
// mostly greater.
func (g *lot) part(size int, v int, vars int) string {
	text := ""
	for _, item := range g.randomTy(size, 2).Items {
		switch {
		case item.Name != "":
			text += item.Name + "/" + strconv.Itoa(item.Arity) + " "
		case g.next(30) == 0:
			text += strconv.Itoa(g.next(vars)) + " "
		default:
			text += strconv.Itoa(min(v+1+item.Var, vars+1)) + " "
		}
	}
	return text
}
