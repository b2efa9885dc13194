package tests

import (
	"slices"
	"strconv"
	"strings"
	"testing"

	"loop.example/g00395/impl"
)

// checkUnifier checks that a substitution makes two types equal.
func checkUnifier(t *testing.T, a impl.Ty, b impl.Ty, l []impl.Sub) {
	t.Helper()
	if !impl.SubsOk(l) {
		t.Errorf("SubsOk is false for %v", l)
	}
	want := replacedItems(a, l)
	if !sameTy(want, replacedItems(b, l)) {
		t.Errorf("%s and %s are not equal with %v", tyText(a), tyText(b), l)
	}
	fits := len(want.Items) <= impl.MaxItems
	for _, part := range []impl.Ty{a, b} {
		if got, ok := impl.TyPut(part, l); ok != fits || ok && !sameTy(got, want) {
			t.Errorf("TyPut is %s and %v for %s and %v", tyText(got), ok, tyText(part), l)
		}
	}
	used := slices.Concat(a.Items, b.Items)
	for _, s := range l {
		for _, item := range append(s.Ty.Items, tyVar(s.Var)) {
			if item.Name == "" && !slices.Contains(used, item) {
				t.Errorf("%s and %s have no variable %d", tyText(a), tyText(b), item.Var)
			}
		}
	}
}

func checkUnifyTys(t *testing.T, a impl.Ty, b impl.Ty, code int, want []impl.Sub) {
	t.Helper()
	got, gotCode := impl.Unify(a, b)
	if gotCode != code || !sameSubs(got, want) {
		t.Errorf("Unify of %s and %s is %d and %v, not %d and %v", brief(tyText(a)), brief(tyText(b)), gotCode, got, code, want)
	}
	if gotCode == 0 {
		checkUnifier(t, a, b, got)
	}
}

// checkUnify checks Unify with both orders of the arguments.
func checkUnify(t *testing.T, a string, b string, want string) {
	t.Helper()
	checkUnifyTys(t, ty(a), ty(b), 0, subs(want))
	checkUnifyTys(t, ty(b), ty(a), 0, subs(want))
}

func checkNoUnify(t *testing.T, a string, b string, code int) {
	t.Helper()
	checkUnifyTys(t, ty(a), ty(b), code, nil)
	checkUnifyTys(t, ty(b), ty(a), code, nil)
}

func TestUnifyVariables(t *testing.T) {
	checkUnify(t, "0", "0", "")
	checkUnify(t, "9999", "9999", "")
	checkUnify(t, "2", "5", "5 = 2")
	checkUnify(t, "0", "9999", "9999 = 0")
	checkUnify(t, "9", "10", "10 = 9")
	checkUnify(t, "* 3 3", "* 3 3", "")
	checkUnify(t, "* 3 4", "* 4 3", "4 = 3")
	checkUnify(t, "* 0 * 1 2", "* 1 * 2 0", "1 = 0, 2 = 0")
	checkUnify(t, "* 2 * 1 0", "* 1 * 0 2", "1 = 0, 2 = 0")
	checkUnify(t, "* 5 * 4 3", "* 6 * 6 6", "4 = 3, 5 = 3, 6 = 3")
	checkUnify(t, "* 5 * 3 6", "* 4 * 4 5", "4 = 3, 5 = 3, 6 = 3")
	checkUnify(t, "* 1 * 3 1", "* 2 * 4 3", "2 = 1, 3 = 1, 4 = 1")
	checkUnify(t, "list 7", "list 8", "8 = 7")
}

func TestUnifyVariablesAndConstructors(t *testing.T) {
	checkUnify(t, "0", "int", "0 = int")
	checkUnify(t, "9999", "list 0", "9999 = list 0")
	checkUnify(t, "0", "list 9999", "0 = list 9999")
	checkUnify(t, "4", "t/2 5 t/0", "4 = t/2 5 t/0")
	checkUnify(t, "* 0 0", "* int int", "0 = int")
	checkUnify(t, "* 0 0", "* int 1", "0 = int, 1 = int")
	checkUnify(t, "* 0 0", "* 1 int", "0 = int, 1 = int")
	checkUnify(t, "* 0 1", "* list 1 int", "0 = list int, 1 = int")
	checkUnify(t, "* 1 0", "* int list 1", "0 = list int, 1 = int")
	checkUnify(t, "* 1 * 2 0", "* list 2 * int ref 1", "0 = ref list int, 1 = list int, 2 = int")
	checkUnify(t, "* 0 * 1 2", "* -> 1 2 * list 2 bool", "0 = -> list bool bool, 1 = list bool, 2 = bool")
	checkUnify(t, "* 0 * 0 1", "* list 1 * list int int", "0 = list int, 1 = int")
	checkUnify(t, "* 0 0", "* list 1 list 2", "0 = list 1, 2 = 1")
	checkUnify(t, "* 0 * 3 0", "* list 2 * list 1 3", "0 = list 1, 2 = 1, 3 = list 1")
	checkUnify(t, "* 10 * 9 11", "* int * 11 bool", "9 = bool, 10 = int, 11 = bool")
	checkUnify(t, "-> 0 * 0 1", "-> * 2 2 * 3 ref 3", "0 = * 2 2, 1 = ref * 2 2, 3 = * 2 2")
	checkUnify(t, "-> -> 0 1 -> list 0 list 1", "-> 2 -> 3 3", "1 = 0, 2 = -> 0 0, 3 = list 0")
}

func TestUnifyConstructors(t *testing.T) {
	for _, text := range []string{"int", "t/0", "list bool", "ref list 3", "-> 0 * 1 list 0", "t/2 0 t/1 t/0"} {
		checkUnify(t, text, text, "")
	}
	checkUnify(t, "list 0", "list int", "0 = int")
	checkUnify(t, "t/1 0", "t/1 t/0", "0 = t/0")
	checkUnify(t, "t/2 0 bool", "t/2 int 1", "0 = int, 1 = bool")
	heads := []string{"int", "bool", "t/0", "list/0", "list", "ref", "t/1", "u/1", "->", "*", "t/2", "list/2", "int/1"}
	for i, first := range heads {
		for j, second := range heads {
			a := first + " " + strings.Repeat("0 ", ty(first).Items[0].Arity)
			b := second + " " + strings.Repeat("0 ", ty(second).Items[0].Arity)
			if i == j {
				checkUnify(t, a, b, "")
			} else {
				checkNoUnify(t, a, b, 2)
			}
		}
	}
}

func TestUnifyClashes(t *testing.T) {
	checkNoUnify(t, "list int", "list bool", 2)
	checkNoUnify(t, "* int int", "* int bool", 2)
	checkNoUnify(t, "* int int", "* bool int", 2)
	checkNoUnify(t, "* 0 0", "* int bool", 2)
	checkNoUnify(t, "* 0 * 1 1", "* int * 0 bool", 2)
	checkNoUnify(t, "* 0 * 1 0", "* 1 * int list 2", 2)
	checkNoUnify(t, "-> 0 0", "-> list 1 ref 1", 2)
}

func TestUnifyEndlessTypes(t *testing.T) {
	checkNoUnify(t, "0", "list 0", 3)
	checkNoUnify(t, "9999", "* int 9999", 3)
	checkNoUnify(t, "* 0 1", "* list 1 list 0", 3)
	checkNoUnify(t, "* 0 1", "* 1 list 0", 3)
	checkNoUnify(t, "* 1 0", "* 0 list 1", 3)
	checkNoUnify(t, "* 0 0", "* 1 list 1", 3)
	checkNoUnify(t, "* 0 * 1 2", "* list 1 * list 2 list 0", 3)
	checkNoUnify(t, "* 0 * 1 2", "* list 1 * list 2 0", 3)
	checkNoUnify(t, "-> 3 3", "-> 4 -> 4 5", 3)
	checkNoUnify(t, "* 0 0", "* * 1 2 * 2 list 1", 3)
	checkUnify(t, "* 0 0", "* * 1 2 * 2 1", "0 = * 1 1, 2 = 1")
	checkUnify(t, "* 0 1", "* list 1 2", "0 = list 1, 2 = 1")
}

// TestFirstCodeOfUnify has two reasons to fail.
func TestFirstCodeOfUnify(t *testing.T) {
	large := layers(198, "list", "0")
	checkNoUnify(t, "* int 0", "* bool list 0", 2)
	checkNoUnify(t, "* 0 int", "* list 0 bool", 3)
	checkNoUnify(t, "t/2 0 int", "*/2 list 0 int", 2)
	checkNoUnify(t, "t/2 0 0", "u/2 list 0 int", 2)
	checkNoUnify(t, "t/2 0 1", "t/1 list 0", 2)
	checkNoUnify(t, "list 0", "ref list 0", 2)
	checkNoUnify(t, "* * 0 int int", "* * list 0 int bool", 3)
	checkNoUnify(t, "* * int 0 0", "* * bool 0 list 0", 2)
	checkNoUnify(t, "* 0 * int 1", "* * 1 1 * bool "+layers(150, "list", "2"), 2)
	checkNoUnify(t, "* 0 * 1 int", "* * 1 1 * "+layers(150, "list", "2")+" bool", 4)
	checkNoUnify(t, "* 0 * 1 2", "* * 1 1 * "+layers(150, "list", "2")+" list 2", 4)
	checkNoUnify(t, "* 0 * 2 1", "* * 1 1 * list 2 "+layers(150, "list", "2"), 3)
	checkNoUnify(t, "* 0 * 1 int", "* "+layers(90, "list", "* 1 1")+" * list 1 bool", 3)
	// Both apply to one variable: it is in a type that would be too large.
	checkNoUnify(t, "* 0 1", "* "+layers(150, "list", "1")+" * 0 0", 3)
	checkNoUnify(t, "* 0 1", "* "+layers(150, "list", "2")+" * 0 0", 4)
	for _, bad := range badTys() {
		for _, good := range []string{"0", "int", "list 0", large} {
			checkUnifyTys(t, bad, ty(good), 1, nil)
			checkUnifyTys(t, ty(good), bad, 1, nil)
		}
		checkUnifyTys(t, bad, bad, 1, nil)
	}
	checkUnifyTys(t, ty("10000"), ty("10000"), 1, nil)
	checkUnifyTys(t, ty("9999"), ty("10000"), 1, nil)
	checkUnifyTys(t, ty("* 0 10000"), ty("* list 0 int"), 1, nil)
	checkUnifyTys(t, ty("int"), ty("* bool"), 1, nil)
}

// TestUnifyMaxItems has types of MaxItems items and of one more in every place
// where they can occur.
func TestUnifyMaxItems(t *testing.T) {
	const most = impl.MaxItems
	whole := layers(most-1, "list", "1")
	checkUnify(t, "0", whole, "0 = "+whole)
	checkUnify(t, whole, whole, "")
	checkNoUnify(t, "0", "list "+whole, 1)
	checkNoUnify(t, whole, layers(most-1, "list", "list 1"), 1)
	checkUnify(t, whole, layers(most-1, "list", "0"), "1 = 0")
	checkNoUnify(t, whole, layers(most-2, "list", "1"), 3)
	checkNoUnify(t, whole, layers(most-2, "list", "int"), 2)

	// What replaces 1 has n + 1 + 2 * 91 items.
	twice := func(n int) string { return layers(n, "ref", "* 0 0") }
	part := layers(90, "list", "int")
	put := layers(17, "ref", "* "+part+" "+part)
	checkUnify(t, "* 0 1", "* "+part+" "+twice(17), "0 = "+part+", 1 = "+put)
	checkNoUnify(t, "* 0 1", "* "+part+" "+twice(18), 4)
	checkUnify(t, "* 0 1", "* list "+part+" "+twice(15), "0 = list "+part+", 1 = "+layers(15, "ref", "* list "+part+" list "+part))
	checkNoUnify(t, "* 0 1", "* list "+part+" "+twice(16), 4)

	// The type that already replaces 1 grows to as many.
	checkUnify(t, "* 1 0", "* "+twice(17)+" "+part, "0 = "+part+", 1 = "+put)
	checkNoUnify(t, "* 1 0", "* "+twice(18)+" "+part, 4)
	checkNoUnify(t, "* 1 * 2 0", "* "+twice(18)+" * 0 "+part, 4)
	checkNoUnify(t, "* 2 * 1 0", "* 0 * "+twice(18)+" "+part, 4)
	checkNoUnify(t, "* 0 * 2 1", "* 1 * "+layers(18, "ref", "* 1 1")+" "+part, 4)
}

// TestUnifyDoubles has types each of which has the one before twice, so that
// the size of the last one is 2^(n + 1) - 1.
func TestUnifyDoubles(t *testing.T) {
	for n := range 12 {
		grows, shrinks := []string{"int", "int"}, []string{"int", "int"}
		for i := range n {
			v, w := strconv.Itoa(i+1), strconv.Itoa(i)
			grows = []string{"* " + grows[0] + " " + v, "* " + grows[1] + " * " + w + " " + w}
			v, w = strconv.Itoa(100-i), strconv.Itoa(99-i)
			shrinks = []string{"* " + shrinks[0] + " " + v, "* " + shrinks[1] + " * " + w + " " + w}
		}
		for _, pair := range [][]string{grows, shrinks} {
			if n < 7 {
				l, code := impl.Unify(ty(pair[0]), ty(pair[1]))
				if code != 0 || len(l) != n {
					t.Fatalf("the code of %d doubles is %d, the substitution %v", n, code, l)
				}
				checkUnifier(t, ty(pair[0]), ty(pair[1]), l)
			} else {
				checkNoUnify(t, pair[0], pair[1], 4)
			}
		}
	}
}

// TestUnifiedButTooLarge: types may be made equal by a substitution although
// they are too large then, if nothing that replaces a variable is.
func TestUnifiedButTooLarge(t *testing.T) {
	part := layers(90, "list", "int")
	a, b := "* 0 * 0 0", "* "+part+" * 1 0"
	checkUnify(t, a, b, "0 = "+part+", 1 = "+part)
	checkNoPut(t, "three large parts", ty(a), subs("0 = "+part))
	checkNoPut(t, "three large parts", ty(b), subs("0 = "+part+", 1 = "+part))
}

// TestUnifyManyVariables has as many variables as two types can have.
func TestUnifyManyVariables(t *testing.T) {
	low, high, mixed, want := []int{}, []int{}, []int{}, []impl.Sub{}
	for i := range 100 {
		low, high, mixed = append(low, i), append(high, 9900+i), append(mixed, i*37%100)
		want = append(want, impl.Sub{Var: 9900 + i, Ty: ty(strconv.Itoa(i))})
	}
	for range 10 {
		checkUnifyTys(t, ty(manyVars(low)), ty(manyVars(high)), 0, want)
		checkUnifyTys(t, ty(manyVars(high)), ty(manyVars(low)), 0, want)
	}
	checkUnifyTys(t, ty(manyVars(mixed)), ty(manyVars(slices.Repeat([]int{100}, 100))), 0, allZero(1, 101))
	next := append(slices.Clone(low[1:]), 100)
	checkUnifyTys(t, ty(manyVars(low)), ty(manyVars(next)), 0, allZero(1, 101))
	checkUnifyTys(t, ty(manyVars(next)), ty(manyVars(low)), 0, allZero(1, 101))
}

// allZero replaces the variables from one to another by 0.
func allZero(from int, to int) []impl.Sub {
	l := []impl.Sub{}
	for n := from; n < to; n++ {
		l = append(l, impl.Sub{Var: n, Ty: ty("0")})
	}
	return l
}
