package tests

import (
	"slices"
	"strings"
	"testing"

	"loop.example/g00395/impl"
)

func checkFits(t *testing.T, a string, b string, want bool) {
	t.Helper()
	if impl.Fits(ty(a), ty(b)) != want {
		t.Errorf("Fits of %s and %s is %v", brief(a), brief(b), !want)
	}
}

// checkOneWay checks that b is an instance of a, but a is none of b.
func checkOneWay(t *testing.T, a string, b string) {
	t.Helper()
	checkFits(t, a, b, true)
	checkFits(t, b, a, false)
}

func checkApart(t *testing.T, a string, b string) {
	t.Helper()
	checkFits(t, a, b, false)
	checkFits(t, b, a, false)
}

func checkAlike(t *testing.T, a string, b string) {
	t.Helper()
	checkFits(t, a, b, true)
	checkFits(t, b, a, true)
}

func TestFits(t *testing.T) {
	for _, text := range []string{"0", "9999", "int", "t/0", "list 0", "-> 3 * 7 3", "* 1 0", "t/2 ref 5 list/0"} {
		checkAlike(t, text, text)
		if text != "0" && text != "9999" {
			checkOneWay(t, "4", text)
		}
	}
	checkAlike(t, "0", "9999")
	checkAlike(t, "* 0 1", "* 1 0")
	checkAlike(t, "* 0 * 0 1", "* 5 * 5 4")
	checkApart(t, "int", "bool")
	checkApart(t, "int", "list int")
	checkApart(t, "list int", "list bool")
	checkApart(t, "list 0", "ref 0")
	checkApart(t, "list 0", "list/0")
	checkApart(t, "t/1 0", "t/2 0 0")
	checkApart(t, "t/2 0 1", "* 0 1")
	checkApart(t, "-> 0 1", "* 0 1")
	checkApart(t, "* 0 int", "* 0 bool")
	checkApart(t, "* int 0", "* 0 int")
	checkApart(t, "* int 0", "* bool 0")
	checkApart(t, "* 0 list 1", "* list 0 ref 1")
	checkOneWay(t, "list 0", "list int")
	checkOneWay(t, "list 0", "list list 1")
	checkOneWay(t, "-> 0 1", "-> int bool")
	checkOneWay(t, "-> 0 1", "-> list 2 * 2 3")
	checkOneWay(t, "* 0 * 1 2", "* int * bool int")
	checkOneWay(t, "t/2 9999 list 0", "t/2 u/0 list ref u/0")
	checkOneWay(t, "* 0 1", "* 0 int")
}

// TestFitsOfVariablesThatOccurTwice has variables that stand for one type.
func TestFitsOfVariablesThatOccurTwice(t *testing.T) {
	checkFits(t, "* 0 0", "* int int", true)
	checkFits(t, "* 0 0", "* int bool", false)
	checkFits(t, "* 0 0", "* bool int", false)
	checkFits(t, "* 0 0", "* list 3 list 3", true)
	checkFits(t, "* 0 0", "* list 3 list 4", false)
	checkFits(t, "* 0 0", "* list 3 ref 3", false)
	checkFits(t, "* 0 0", "* 3 list 3", false)
	checkFits(t, "* 0 0", "* t/1 int t/2 int int", false)
	checkOneWay(t, "* 0 1", "* 0 0")
	checkOneWay(t, "* 0 1", "* 2 2")
	checkOneWay(t, "* 0 * 1 * 0 1", "* int * bool * int bool")
	checkFits(t, "* 0 * 1 * 0 1", "* int * bool * bool int", false)
	checkFits(t, "* 0 * 1 0", "* int * int bool", false)
	checkFits(t, "-> list 0 * 1 0", "-> list int * bool int", true)
	checkFits(t, "-> list 0 * 1 0", "-> list int * bool list int", false)
	checkFits(t, "* * 0 1 * 1 0", "* * 5 6 * 6 5", true)
	checkFits(t, "* * 0 1 * 1 0", "* * 5 6 * 5 6", false)
}

// TestFitsOfSharedVariables has variables that occur in both types, where they
// are different ones.
func TestFitsOfSharedVariables(t *testing.T) {
	checkOneWay(t, "0", "list 0")
	checkOneWay(t, "* 0 1", "* list 0 1")
	checkOneWay(t, "* 0 1", "* list 1 list 0")
	checkOneWay(t, "* 0 1", "* 1 1")
	checkAlike(t, "-> 0 * 1 0", "-> 1 * 0 1")
	checkAlike(t, "-> 0 * 1 2", "-> 1 * 2 0")
	checkAlike(t, "* * 0 1 * 2 0", "* * 2 0 * 1 2")
	checkOneWay(t, "* 0 * 1 2", "* 1 * 2 1")
	checkOneWay(t, "* 0 * 1 0", "* 1 * 1 1")
	checkOneWay(t, "* 0 * 1 0", "* list 1 * 0 list 1")
	checkFits(t, "* 0 * 1 0", "* 1 * 0 0", false)
	checkFits(t, "* 0 * 0 1", "* 1 * 0 1", false)
	checkFits(t, "* 0 0", "* 0 list 0", false)
	checkFits(t, "* 0 0", "* 1 0", false)
	checkFits(t, "* 0 0", "* 0 1", false)
}

func TestFitsOfBadTys(t *testing.T) {
	for _, bad := range badTys() {
		for _, good := range []string{"0", "int", "list 0", "* 0 1"} {
			if impl.Fits(bad, ty(good)) || impl.Fits(ty(good), bad) {
				t.Errorf("Fits of %s and %s is true", brief(tyText(bad)), good)
			}
		}
		if impl.Fits(bad, bad) {
			t.Errorf("Fits of %s and itself is true", brief(tyText(bad)))
		}
	}
	checkFits(t, "0", "9999", true)
	checkFits(t, "0", "10000", false)
	checkFits(t, "10000", "0", false)
}

func TestFitsOfLargeTypes(t *testing.T) {
	const most = impl.MaxItems
	whole := layers(most-1, "list", "0")
	checkAlike(t, whole, layers(most-1, "list", "7"))
	checkOneWay(t, whole, layers(most-1, "list", "int"))
	checkOneWay(t, "0", whole)
	checkOneWay(t, layers(most-2, "list", "0"), whole)
	checkFits(t, "0", "list "+whole, false)
	checkFits(t, "list "+whole, "list "+whole, false)
	part := layers(98, "list", "1")
	checkOneWay(t, "* 0 0", "* "+part+" "+part)
	checkApart(t, "* 0 0", "* "+part+" "+layers(98, "list", "2"))
	wide := strings.Repeat("* 0 ", 99)
	checkFits(t, wide+"0", strings.Repeat("* list/0 ", 99)+"list/0", true)
	checkFits(t, wide+"0", strings.Repeat("* list/0 ", 99)+"list/1", false)
	checkFits(t, wide+"1", strings.Repeat("* list/0 ", 99)+"int", true)
	checkFits(t, wide+"0", strings.Repeat("* list/0 ", 99)+"int", false)
}

// partsOf are the types that a type consists of, itself included.
func partsOf(a impl.Ty) []impl.Ty {
	list := []impl.Ty{}
	for at := range a.Items {
		part, _ := cut(a.Items[at:])
		list = append(list, tyOf(part...))
	}
	return list
}

// fitsSomehow tries all substitutions of 0, 1 and 2 by parts of b.
func fitsSomehow(a impl.Ty, b impl.Ty) bool {
	parts := partsOf(b)
	for _, x := range parts {
		for _, y := range parts {
			for _, z := range parts {
				l := []impl.Sub{{Var: 0, Ty: x}, {Var: 1, Ty: y}, {Var: 2, Ty: z}}
				if sameTy(replacedItems(a, l), b) {
					return true
				}
			}
		}
	}
	return false
}

// TestFitsOfAllSmallTypes compares Fits with its definition for all pairs of
// small types.
func TestFitsOfAllSmallTypes(t *testing.T) {
	fits, list := 0, smallTys(4, "0", "1", "2", "int")
	for _, a := range list {
		for _, b := range list {
			want := fitsSomehow(ty(a), ty(b))
			checkFits(t, a, b, want)
			if want {
				fits++
			}
		}
	}
	if fits < 300 {
		t.Errorf("only %d types fit", fits)
	}
}

// TestRandomFits: an instance fits, two types that fit both ways differ in
// names only, and one that is unified with others fits all of them.
func TestRandomFits(t *testing.T) {
	both, unified := 0, 0
	for seed := range uint32(4000) {
		g := &lot{seed: seed}
		a := g.randomTy(40, 8)
		other := renamed(a, func(n int) int { return (n + 3) % 8 })
		if !impl.Fits(a, a) || !impl.Fits(a, other) || !impl.Fits(other, a) || !impl.Fits(a, impl.TyCanon(a)) || !impl.Fits(impl.TyCanon(a), a) {
			t.Fatalf("%s does not fit itself", tyText(a))
		}
		b, ok := impl.TyPut(other, g.randomSubs(12))
		if !ok {
			continue
		}
		if !impl.Fits(a, b) || impl.Fits(b, a) != sameTy(impl.TyCanon(a), impl.TyCanon(b)) {
			t.Fatalf("%s and its instance %s: %v, %v", tyText(a), tyText(b), impl.Fits(a, b), impl.Fits(b, a))
		}
		if impl.Fits(b, a) {
			both++
		}
		c := g.randomTy(6, 3)
		l, code := impl.Unify(b, c)
		if code != 0 {
			continue
		}
		if d, ok := impl.TyPut(c, l); ok {
			unified++
			if !impl.Fits(c, d) || !impl.Fits(b, d) || !impl.Fits(a, d) || !slices.Equal(impl.TyVars(d), impl.TyVars(replacedItems(b, l))) {
				t.Fatalf("%s and %s are unified, but %s does not fit", tyText(b), tyText(c), tyText(d))
			}
		}
	}
	if both < 100 || unified < 100 {
		t.Errorf("%d types fit both ways, %d were unified", both, unified)
	}
}
