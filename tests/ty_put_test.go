package tests

import (
	"math"
	"slices"
	"strconv"
	"strings"
	"testing"

	"loop.example/g00395/impl"
)

// subs is the substitution of a text such as 0 = int, 3 = list 4.
func subs(text string) []impl.Sub {
	l := []impl.Sub{}
	for _, part := range strings.Split(text, ",") {
		if v, u, found := strings.Cut(part, "="); found {
			n, _ := strconv.Atoi(strings.TrimSpace(v))
			l = append(l, impl.Sub{Var: n, Ty: ty(u)})
		}
	}
	return l
}

func sameSubs(a []impl.Sub, b []impl.Sub) bool {
	return slices.EqualFunc(a, b, func(s impl.Sub, u impl.Sub) bool { return s.Var == u.Var && sameTy(s.Ty, u.Ty) })
}

// checkSubs checks whether a list is a valid substitution, and that TyPut
// agrees.
func checkSubs(t *testing.T, what string, l []impl.Sub, want bool) {
	t.Helper()
	if impl.SubsOk(l) != want {
		t.Errorf("%s: SubsOk is %v", what, !want)
	}
	for _, text := range []string{"int", "12", "* 0 list 9999"} {
		if got, ok := impl.TyPut(ty(text), l); ok != want || !ok && len(got.Items) > 0 {
			t.Errorf("%s: TyPut of %s is %s and %v", what, text, brief(tyText(got)), ok)
		}
	}
}

func TestSubsOk(t *testing.T) {
	for _, text := range []string{
		"", "0 = int", "9999 = 0", "0 = 9999", "5 = 4", "4 = 5", "0 = list 1, 2 = list 1", "1 = int, 2 = int, 3 = int, 9999 = int",
		"0 = t/2 1 3, 2 = -> 1 ref 3, 4 = list/0", "3 = * 0 * 1 * 2 * 4 5", "7 = int/1 8, 10 = * 9 11",
	} {
		checkSubs(t, text, subs(text), true)
	}
	checkSubs(t, "nil", nil, true)
	for _, text := range []string{
		"1 = int, 0 = int", "0 = int, 2 = int, 1 = int", "3 = int, 3 = int", "3 = int, 3 = bool", "0 = int, 9999 = int, 9999 = int", "0 = int, 0 = int, 1 = int",
		"-1 = int", "-1 = int, 0 = int", "10000 = int", "0 = int, 10000 = int", "-5 = int, -3 = int",
		"0 = 0", "3 = list 3", "3 = * 4 * int 3", "0 = list 1, 1 = int", "0 = int, 1 = list 0", "0 = int, 1 = int, 2 = * 3 1", "0 = * 3 2, 1 = int, 2 = int", "0 = 1, 1 = 0", "0 = 1, 1 = 2",
		"9998 = 9999, 9999 = int", "0 = 5, 5 = 5",
	} {
		checkSubs(t, text, subs(text), false)
	}
	for _, n := range farNumbers {
		checkSubs(t, "a variable out of its range", []impl.Sub{{Var: n, Ty: ty("int")}}, false)
		checkSubs(t, "a first variable out of its range", []impl.Sub{{Var: n, Ty: ty("int")}, {Var: 3, Ty: ty("int")}}, false)
		checkSubs(t, "a last variable out of its range", []impl.Sub{{Var: 3, Ty: ty("int")}, {Var: n, Ty: ty("int")}}, false)
	}
	checkSubs(t, "variables that overflow", []impl.Sub{{Var: math.MaxInt, Ty: ty("int")}, {Var: math.MinInt, Ty: ty("int")}}, false)
}

func TestSubsOkOfBadTys(t *testing.T) {
	for _, bad := range badTys() {
		what := brief(tyText(bad))
		checkSubs(t, what, []impl.Sub{{Var: 50, Ty: bad}}, false)
		checkSubs(t, what, []impl.Sub{{Var: 50, Ty: bad}, {Var: 51, Ty: ty("int")}}, false)
		checkSubs(t, what, []impl.Sub{{Var: 49, Ty: ty("int")}, {Var: 50, Ty: bad}}, false)
	}
	checkSubs(t, "the most items", []impl.Sub{{Var: 50, Ty: ty(layers(impl.MaxItems-1, "list", "0"))}}, true)
}

// TestSubsOkOfEveryVariable has a variable for each number.
func TestSubsOkOfEveryVariable(t *testing.T) {
	l := []impl.Sub{}
	for n := range 10000 {
		l = append(l, impl.Sub{Var: n, Ty: ty("list int")})
	}
	checkPut(t, "* 0 * 12 9999", l, "* list int * list int list int")
	l[0].Ty = ty("list 9999")
	checkSubs(t, "the first type has the last variable", l, false)
	l[0].Ty, l[9999].Ty = ty("int"), ty("0")
	checkSubs(t, "the last type is the first variable", l, false)
	l[9999].Ty = ty("int")
	checkSubs(t, "one variable too many", append(slices.Clone(l), impl.Sub{Var: 10000, Ty: ty("int")}), false)
	checkSubs(t, "all variables twice", slices.Concat(l, l), false)
	for n := range 9999 {
		l[n].Ty = ty("9999")
	}
	checkSubs(t, "all are the last", l[:9999], true)
}

// TestSubsOkOfAllShortLists compares SubsOk with its definition for all lists
// of up to three variables and types.
func TestSubsOkOfAllShortLists(t *testing.T) {
	choices := []impl.Sub{}
	for n := range 4 {
		for _, text := range []string{"int", "list", "0", "1", "* 2 3", "list 1"} {
			choices = append(choices, impl.Sub{Var: n - 1, Ty: ty(text)})
		}
	}
	lists := [][]impl.Sub{{}}
	for size := 0; size < len(lists); size++ {
		l := lists[size]
		if got, want := impl.SubsOk(l), subsAreRight(l); got != want {
			t.Fatalf("SubsOk is %v for %v", got, l)
		}
		if len(l) < 3 {
			for _, c := range choices {
				lists = append(lists, append(slices.Clone(l), c))
			}
		}
	}
}

func subsAreRight(l []impl.Sub) bool {
	for i, s := range l {
		if s.Var < 0 || s.Var > 9999 || !impl.TyOk(s.Ty) {
			return false
		}
		for j, other := range l {
			if j < i && other.Var >= s.Var || slices.Contains(other.Ty.Items, tyVar(s.Var)) {
				return false
			}
		}
	}
	return true
}

// replacedItems is a type with its variables replaced, however large that is.
func replacedItems(a impl.Ty, l []impl.Sub) impl.Ty {
	items := []impl.TyItem{}
	for _, item := range a.Items {
		at := slices.IndexFunc(l, func(s impl.Sub) bool { return item == tyVar(s.Var) })
		if at < 0 {
			items = append(items, item)
		} else {
			items = append(items, l[at].Ty.Items...)
		}
	}
	return tyOf(items...)
}

func checkPut(t *testing.T, text string, l []impl.Sub, want string) {
	t.Helper()
	if got, ok := impl.TyPut(ty(text), l); !ok || !sameTy(got, ty(want)) {
		t.Errorf("TyPut of %s is %s and %v, not %s", brief(text), brief(tyText(got)), ok, brief(want))
	}
}

func checkNoPut(t *testing.T, what string, a impl.Ty, l []impl.Sub) {
	t.Helper()
	if got, ok := impl.TyPut(a, l); ok || len(got.Items) > 0 {
		t.Errorf("%s: TyPut is %s and %v", what, brief(tyText(got)), ok)
	}
}

func TestTyPut(t *testing.T) {
	checkPut(t, "-> 3 * 7 3", subs("3 = int"), "-> int * 7 int")
	checkPut(t, "-> 3 * 7 3", subs("7 = list 3"), "-> 3 * list 3 3")
	checkPut(t, "int", nil, "int")
	checkPut(t, "5", nil, "5")
	checkPut(t, "* 0 list 1", subs(""), "* 0 list 1")
	checkPut(t, "* 0 list 1", subs("2 = int, 3 = 0"), "* 0 list 1")
	checkPut(t, "0", subs("0 = 1"), "1")
	checkPut(t, "* 0 1", subs("0 = 1"), "* 1 1")
	checkPut(t, "* 0 * 1 * 2 3", subs("0 = int, 2 = * 4 4, 3 = list bool"), "* int * 1 * * 4 4 list bool")
	checkPut(t, "t/2 9999 0", subs("0 = 1, 9999 = 1"), "t/2 1 1")
	checkPut(t, "ref 4", subs("4 = -> 5 6"), "ref -> 5 6")
	checkPut(t, "* 10 * 1 11", subs("1 = int, 11 = bool"), "* 10 * int bool")
}

func TestTyPutOfBadArguments(t *testing.T) {
	for _, bad := range badTys() {
		for _, text := range []string{"", "0 = int", "3 = 4"} {
			checkNoPut(t, brief(tyText(bad)), bad, subs(text))
		}
	}
	for _, text := range []string{"3 = 3", "1 = int, 0 = int", "0 = int, 0 = int", "-1 = int", "10000 = int", "0 = list, 1 = int", "0 = list 1, 1 = int"} {
		checkNoPut(t, text, ty("* 3 4"), subs(text))
		checkNoPut(t, text, ty("int"), subs(text))
	}
}

// TestTyPutMaxItems has results with MaxItems items and with one more.
func TestTyPutMaxItems(t *testing.T) {
	const most = impl.MaxItems
	for _, n := range []int{1, 2, 50, most - 2, most - 1} {
		inner := layers(most-1-n, "list", "1")
		checkPut(t, layers(n, "ref", "0"), subs("0 = "+inner), layers(n, "ref", inner))
		checkNoPut(t, "an item too many", ty(layers(n, "ref", "0")), subs("0 = list "+inner))
		checkNoPut(t, "an item too many", ty(layers(n, "ref", "0")), subs("0 = "+layers(most-1-n, "list", "list int")))
	}
	both := layers(98, "list", "int")
	checkPut(t, "* 0 0", subs("0 = "+both), "* "+both+" "+both)
	checkPut(t, "list * 0 0", subs("0 = "+both), "list * "+both+" "+both)
	checkNoPut(t, "an item too many", ty("list list * 0 0"), subs("0 = "+both))
	checkNoPut(t, "two items too many", ty("list * 0 0"), subs("0 = list "+both))
	wide := strings.Repeat("* 0 ", 99) + "0"
	checkPut(t, wide, subs("0 = 5"), strings.Repeat("* 5 ", 99)+"5")
	checkNoPut(t, "20000 items", ty(wide), subs("0 = "+layers(most-1, "list", "5")))
	checkPut(t, layers(most-1, "list", "0"), subs("0 = 1"), layers(most-1, "list", "1"))
	checkNoPut(t, "two items for one", ty(layers(most-1, "list", "0")), subs("0 = list 1"))
}

// randomSubs is a valid substitution of some of the variables less than 8 by
// types of others.
func (g *lot) randomSubs(size int) []impl.Sub {
	l := []impl.Sub{}
	for n := range 8 {
		if g.next(2) == 0 {
			l = append(l, impl.Sub{Var: n})
		}
	}
	free := []int{8, 9, 9999}
	for n := range 8 {
		if !slices.ContainsFunc(l, func(s impl.Sub) bool { return s.Var == n }) {
			free = append(free, n)
		}
	}
	for i := range l {
		l[i].Ty = renamed(g.randomTy(size, len(free)), func(n int) int { return free[n] })
	}
	return l
}

func TestRandomPuts(t *testing.T) {
	large := 0
	for seed := range uint32(4000) {
		g := &lot{seed: seed}
		l := g.randomSubs(1 + int(seed%80))
		a := g.randomTy(40, 10)
		want := replacedItems(a, l)
		got, ok := impl.TyPut(a, l)
		if !impl.SubsOk(l) || ok != (len(want.Items) <= impl.MaxItems) {
			t.Fatalf("SubsOk is %v, TyPut is %v for %s and %v", impl.SubsOk(l), ok, tyText(a), l)
		}
		if !ok {
			large++
			want = impl.Ty{}
		}
		again, _ := impl.TyPut(got, l)
		if !sameTy(got, want) || ok && !sameTy(again, got) || ok && !impl.Fits(a, got) {
			t.Fatalf("TyPut is %s, not %s for %s and %v", tyText(got), tyText(want), tyText(a), l)
		}
	}
	if large < 100 || large > 2000 {
		t.Errorf("%d results were too large", large)
	}
}
