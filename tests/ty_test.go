package tests

import (
	"fmt"
	"math"
	"reflect"
	"slices"
	"strconv"
	"strings"
	"testing"

	"loop.example/g00395/impl"
)

// ty is the type whose items are the words of a text: a number is a variable,
// and t/2 a name with its arity, which is not written for known names.
func ty(text string) impl.Ty {
	known := map[string]int{"int": 0, "bool": 0, "string": 0, "unit": 0, "list": 1, "ref": 1, "->": 2, "*": 2}
	items := []impl.TyItem{}
	for _, word := range strings.Fields(text) {
		name, count, counted := strings.Cut(word, "/")
		arity := known[name]
		if counted {
			arity, _ = strconv.Atoi(count)
		}
		if n, err := strconv.Atoi(word); err == nil {
			items = append(items, tyVar(n))
		} else {
			items = append(items, tyCon(name, arity))
		}
	}
	return tyOf(items...)
}

// layers is the text of n type constructors of arity 1 around a type.
func layers(n int, name string, inner string) string {
	return strings.Repeat(name+" ", n) + inner
}

// tyText shows all fields of the items.
func tyText(ty impl.Ty) string { return fmt.Sprint(ty.Items) }

func sameTy(a impl.Ty, b impl.Ty) bool { return slices.Equal(a.Items, b.Items) }

// badTys are not valid, in every way in which a type can fail to be.
func badTys() []impl.Ty {
	list := []impl.Ty{
		{}, {Items: []impl.TyItem{}},
		ty("list"), ty("* 0"), ty("* 0 list"), ty("-> int"), ty("t/2 0"),
		ty("0 0"), ty("int bool"), ty("* 0 1 2"), ty("list 0 1"), ty("0 list"),
		ty("int/1"), ty("t/3 0 1 2"), ty("list/-1"), ty("list/-2 0"), ty("* t/-1 0"), ty("* 0 t/-1"),
		ty("ref/0"), ty("ref/2 0 1"), ty("-> 0 */1 0"), ty("->/0"), ty("*/0"), ty("*/3 0 1 2"),
		ty("A/0"), ty("let/0"), ty("true/0"), ty("abcdefghijklm/0"), ty("list []/0"), ty("x'/0"), ty("::/2 0 1"),
		tyOf(tyVar(-1)), tyOf(tyVar(10000)), tyOf(tyCon("*", 2), tyVar(0), tyVar(10000)), tyOf(tyCon("list", 1), tyVar(-1)),
		tyOf(impl.TyItem{Var: 3, Arity: 1}, tyVar(0)), tyOf(impl.TyItem{Var: 3, Arity: -1}), tyOf(impl.TyItem{Name: "int", Var: 1}),
		tyOf(impl.TyItem{Name: "list", Var: 7, Arity: 1}, tyVar(0)),
		ty(layers(impl.MaxItems, "list", "0")), ty(layers(impl.MaxItems, "list", "int")), ty(strings.Repeat("* 0 ", 100) + "0"),
		ty(strings.Repeat("int ", 5000)), ty(strings.Repeat("list ", 5000)),
	}
	for _, n := range farNumbers {
		list = append(list, tyOf(tyVar(n)), tyOf(tyCon("list", 1), tyVar(n)), tyOf(tyCon("t", n)), tyOf(tyCon("t", n), tyVar(0)))
	}
	return list
}

func TestBadTysAreBad(t *testing.T) {
	for _, bad := range badTys() {
		if impl.TyOk(bad) {
			t.Errorf("%s is a type", brief(tyText(bad)))
		}
	}
}

func checkVars(t *testing.T, text string, vars []int, canon string) {
	t.Helper()
	if got := impl.TyVars(ty(text)); !slices.Equal(got, vars) {
		t.Errorf("the variables of %s are %v, not %v", brief(text), got, vars)
	}
	if got := impl.TyCanon(ty(text)); !sameTy(got, ty(canon)) {
		t.Errorf("%s is renamed to %s, not to %s", brief(text), brief(tyText(got)), brief(canon))
	}
}

func TestVarsAndCanon(t *testing.T) {
	checkVars(t, "int", nil, "int")
	checkVars(t, "t/2 int t/0", nil, "t/2 int t/0")
	checkVars(t, "0", []int{0}, "0")
	checkVars(t, "1", []int{1}, "0")
	checkVars(t, "9999", []int{9999}, "0")
	checkVars(t, "* 9999 0", []int{0, 9999}, "* 0 1")
	checkVars(t, "* 5 * 5 5", []int{5}, "* 0 * 0 0")
	checkVars(t, "-> 3 * 7 3", []int{3, 7}, "-> 0 * 1 0")
	checkVars(t, "-> 7 * 3 7", []int{3, 7}, "-> 0 * 1 0")
	checkVars(t, "* * 1 0 * 0 1", []int{0, 1}, "* * 0 1 * 1 0")
	checkVars(t, "* 2 * 0 * 1 2", []int{0, 1, 2}, "* 0 * 1 * 2 0")
	checkVars(t, "* 1 * 2 * 3 0", []int{0, 1, 2, 3}, "* 0 * 1 * 2 3")
	checkVars(t, "* 10 * 9 * 100 * 11 * 2 9", []int{2, 9, 10, 11, 100}, "* 0 * 1 * 2 * 3 * 4 1")
	checkVars(t, "-> list 8 ref -> 4 t/1 8", []int{4, 8}, "-> list 0 ref -> 1 t/1 0")
	checkVars(t, "list/0", nil, "list/0")
	checkVars(t, "int/1 6", []int{6}, "int/1 0")
}

// manyVars is a type with a variable for each number.
func manyVars(numbers []int) string {
	text := ""
	for i, n := range numbers {
		if i < len(numbers)-1 {
			text += "* "
		}
		text += strconv.Itoa(n) + " "
	}
	return text
}

func TestVarsAndCanonOfLargeTypes(t *testing.T) {
	checkVars(t, layers(impl.MaxItems-1, "list", "12"), []int{12}, layers(impl.MaxItems-1, "list", "0"))
	up, down, first := []int{}, []int{}, []int{}
	for i := range 100 {
		up, down, first = append(up, 101*i), append(down, 9999-101*i), append(first, i)
	}
	checkVars(t, manyVars(up), up, manyVars(first))
	back := slices.Clone(down)
	slices.Reverse(back)
	checkVars(t, manyVars(down), back, manyVars(first))
}

func TestVarsAndCanonOfBadTys(t *testing.T) {
	for _, bad := range badTys() {
		if got := impl.TyVars(bad); len(got) > 0 {
			t.Errorf("the variables of %s are %v", brief(tyText(bad)), got)
		}
		if got := impl.TyCanon(bad); len(got.Items) > 0 {
			t.Errorf("%s is renamed to %s", brief(tyText(bad)), brief(tyText(got)))
		}
	}
}

// randomTy is a valid type with at most 200 items and variables less than vars.
func (g *lot) randomTy(size int, vars int) impl.Ty {
	for {
		if made := tyOf(g.ty(1+g.next(size), vars).items(nil)...); len(made.Items) <= impl.MaxItems {
			return made
		}
	}
}

// renamed is a type with other variables.
func renamed(a impl.Ty, number func(int) int) impl.Ty {
	items := slices.Clone(a.Items)
	for i := range items {
		if items[i].Name == "" {
			items[i].Var = number(items[i].Var)
		}
	}
	return tyOf(items...)
}

// namesInOrder reports whether the variables are 0, 1 and so on in the order of
// their first occurrence.
func namesInOrder(a impl.Ty) bool {
	count := 0
	for _, item := range a.Items {
		if item.Name == "" && item.Var == count {
			count++
		} else if item.Name == "" && item.Var > count {
			return false
		}
	}
	return true
}

// TestRandomCanon checks TyCanon by what it is for: the names come in order,
// and types have the same ones if and only if they differ in names only.
func TestRandomCanon(t *testing.T) {
	for seed := range uint32(3000) {
		g := &lot{seed: seed}
		a := g.randomTy(60, 8)
		canon := impl.TyCanon(a)
		before := map[int]int{}
		for i, item := range canon.Items {
			if item.Name == "" {
				before[item.Var] = a.Items[i].Var
			}
		}
		back := renamed(canon, func(n int) int { return before[n] })
		if !namesInOrder(canon) || !sameTy(back, a) || len(before) != len(impl.TyVars(a)) {
			t.Fatalf("%s is renamed to %s", tyText(a), tyText(canon))
		}
		other := renamed(a, func(n int) int { return 9999 - 7*n })
		if !sameTy(impl.TyCanon(other), canon) || !sameTy(impl.TyCanon(canon), canon) {
			t.Fatalf("%s and %s are named differently", tyText(other), tyText(a))
		}
		b := renamed(a, func(n int) int { return n / 2 })
		if differs := len(impl.TyVars(b)) < len(impl.TyVars(a)); sameTy(impl.TyCanon(b), canon) == differs {
			t.Fatalf("%s is renamed to %s, %s to %s", tyText(a), tyText(canon), tyText(b), tyText(impl.TyCanon(b)))
		}
	}
}

func TestRandomVars(t *testing.T) {
	for seed := range uint32(3000) {
		g := &lot{seed: seed}
		a := renamed(g.randomTy(60, 12), func(n int) int { return n * 3331 % 10000 })
		vars := impl.TyVars(a)
		for i, n := range vars {
			if i > 0 && n <= vars[i-1] || !slices.Contains(a.Items, tyVar(n)) {
				t.Fatalf("the variables of %s are %v", tyText(a), vars)
			}
		}
		for _, item := range a.Items {
			if item.Name == "" && !slices.Contains(vars, item.Var) {
				t.Fatalf("the variables of %s are %v", tyText(a), vars)
			}
		}
	}
}

// roomyTy is a type with something behind the end of its items.
func roomyTy(text string) impl.Ty { return tyOf(roomy(ty(text).Items, tyCon("behind", 83))...) }

// wholeTy is a type with what is behind the end of its items.
func wholeTy(a impl.Ty) []impl.TyItem { return slices.Clone(a.Items[:cap(a.Items)]) }

// spoil overwrites a type and what is behind the end of its items.
func spoil(a impl.Ty) {
	for i := range a.Items[:cap(a.Items)] {
		a.Items[:cap(a.Items)][i] = tyCon("spoilt", math.MaxInt)
	}
}

// spoilSubs does the same with a substitution.
func spoilSubs(l []impl.Sub) {
	for _, s := range l {
		spoil(s.Ty)
	}
	for i := range l[:cap(l)] {
		l[:cap(l)][i] = impl.Sub{Var: math.MinInt}
	}
}

// TestTysStay: the functions change neither their arguments nor what is behind
// them, and a result that is changed has no influence on anything else.
func TestTysStay(t *testing.T) {
	texts := []string{"-> 3 * 7 3", "-> list 1 * 2 list 1", "* * 4 5 list 6", "5", "int", "list list", "* 3 * list 7 10000"}
	for i, first := range texts {
		for _, second := range texts {
			a, b := roomyTy(first), roomyTy(second)
			l := roomy([]impl.Sub{{Var: 3, Ty: roomyTy("list 8")}, {Var: 7, Ty: roomyTy(texts[i])}}, impl.Sub{Var: 84})
			kept := []any{wholeTy(a), wholeTy(b), slices.Clone(l[:cap(l)]), wholeTy(l[0].Ty), wholeTy(l[1].Ty)}
			answers := []any{}
			for range 3 {
				vars, canon, whole := impl.TyVars(a), impl.TyCanon(a), impl.SubsOk(l)
				put, putOk := impl.TyPut(b, l)
				found, code := impl.Unify(a, b)
				fit := impl.Fits(a, b)
				answer := fmt.Sprint(vars, canon, whole, put, putOk, found, code, fit)
				for j := range vars[:cap(vars)] {
					vars[:cap(vars)][j] = 85
				}
				spoil(canon)
				spoil(put)
				spoilSubs(found)
				answers = append(answers, answer)
			}
			if !reflect.DeepEqual(kept, []any{wholeTy(a), wholeTy(b), slices.Clone(l[:cap(l)]), wholeTy(l[0].Ty), wholeTy(l[1].Ty)}) {
				t.Fatalf("an argument has changed: %s, %s", first, second)
			}
			if answers[0] != answers[1] || answers[0] != answers[2] {
				t.Fatalf("different answers for %s, %s: %v", first, second, answers)
			}
		}
	}
}

// TestTypesOfAResultAreApart: no two types of one result share memory, nor do
// they grow into one another.
func TestTypesOfAResultAreApart(t *testing.T) {
	a, b := ty("* 0 * 1 * 2 2"), ty("* list 3 * list 3 * list 3 list 3")
	for i := range 3 {
		l, code := impl.Unify(a, b)
		if code != 0 || len(l) != 3 {
			t.Fatalf("the code is %d, the substitution %v", code, l)
		}
		l[i].Ty.Items = append(l[i].Ty.Items, tyCon("more", 0))
		spoil(l[i].Ty)
		for j, s := range l {
			if j != i && (!sameTy(s.Ty, ty("list 3")) || s.Var != j) {
				t.Errorf("type %d changes together with type %d", j, i)
			}
		}
	}
	if !sameTy(b, ty("* list 3 * list 3 * list 3 list 3")) {
		t.Error("an argument has changed")
	}
}
