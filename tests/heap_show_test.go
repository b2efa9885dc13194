package tests

import (
	"math"
	"strings"
	"testing"

	"loop.example/g00395/impl"
)

// allDepths are from below 0 to more than MaxShow, and far from them.
var allDepths = []int{math.MinInt, -impl.MaxShow, -2, -1, 0, 1, 2, 3, 4, 5, 6, 7, 8, 9, 10, 11, 12, 13, 14, 100, math.MaxInt}

// checkShow checks how a value is shown at a depth.
func checkShow(t *testing.T, heap string, word string, deep int, want string) {
	t.Helper()
	checkShown(t, heapOf(heap), valOf(word), allDepths...)
	if got := impl.Show(heapOf(heap), valOf(word), deep); got != want {
		t.Errorf("%s in %s is shown as %q, not %q", word, heap, got, want)
	}
}

// TestShowValues: a value that is no cell is shown at every depth up to MaxShow.
func TestShowValues(t *testing.T) {
	for word, want := range map[string]string{
		"0": "0", "1": "1", "-1": "-1", "4611686018427387903": "4611686018427387903", "-4611686018427387904": "-4611686018427387904", "()": "()", "Leaf": "Leaf", "[]": "[]", "true": "true", "<say>": "<say>", "<print>": "<print>", "-": "-", `"a"`: `"a"`, `""`: `""`,
	} {
		for _, heap := range []string{"", "ref 0; ref @0"} {
			for _, deep := range allDepths {
				if deep <= 12 {
					checkShow(t, heap, word, deep, want)
				} else {
					checkShow(t, heap, word, deep, "")
				}
			}
		}
	}
}

// TestShowTexts: a string is shown by Quote, other texts as they are.
func TestShowTexts(t *testing.T) {
	for _, s := range []string{"", "a", "\n", "\"", "\\", "\x00", "\xff", "\x7f", "a\nb\"c\\d\te", "(A, B)", "é", strings.Repeat("\n", 5000)} {
		v := impl.Val{Kind: impl.VStr, S: s}
		for _, deep := range allDepths {
			want := ""
			if deep <= 12 {
				want = impl.Quote(s)
			}
			if got := impl.Show(nil, v, deep); got != want {
				t.Errorf("Show is %q at the depth %d for %q", brief(got), deep, brief(s))
			}
		}
		h := []impl.Cell{{Kind: impl.CellRef, A: v}, {Kind: impl.CellCon, S: s, A: v}}
		if got := impl.Show(h, cellAt(0), 1); got != "{"+impl.Quote(s)+"}" {
			t.Errorf("a reference to %q is shown as %q", brief(s), brief(got))
		}
		if got := impl.Show(h, cellAt(1), 1); got != "("+s+" "+impl.Quote(s)+")" {
			t.Errorf("a constructor %q is shown as %q", brief(s), brief(got))
		}
		if s == "" {
			continue
		}
		tag, given := impl.Show(nil, impl.Val{Kind: impl.VTag, S: s}, 0), impl.Show(nil, impl.Val{Kind: impl.VGiven, S: s}, 0)
		if tag != s || given != "<"+s+">" {
			t.Errorf("%q is shown as %q and %q", brief(s), brief(tag), brief(given))
		}
	}
}

func TestShowEveryKindOfCell(t *testing.T) {
	for _, e := range [][2]string{
		{"con Node 1", "(Node 1)"}, {"con :: ()", "(:: ())"}, {"pair 1 2", "(1, 2)"}, {`pair "a" Leaf`, `("a", Leaf)`}, {"fun 7 -", "<fun 7 ->"}, {"fun 0 ()", "<fun 0 ()>"}, {"rec 7 -", "<rec 7 ->"}, {"rec 12 x", "<rec 12 x>"}, {"fun -3 -", "<fun -3 ->"},
		{"ref 1", "{1}"}, {"ref <say>", "{<say>}"}, {"env 1 -", "[1 -]"}, {"env - 1", "[- 1]"}, {`env "a_b" ()`, `["a_b" ()]`},
	} {
		for _, deep := range allDepths {
			switch {
			case deep <= 0:
				checkShow(t, e[0], "@0", deep, "?")
			case deep <= 12:
				checkShow(t, e[0], "@0", deep, e[1])
			default:
				checkShow(t, e[0], "@0", deep, "")
			}
		}
	}
}

// TestShowDepths: what is too deep is shown as a question mark, in A and in B.
func TestShowDepths(t *testing.T) {
	const heap = "env @1 @2; pair @3 @4; con A @4; fun 1 @2; ref @5; rec 2 -"
	for deep, want := range []string{
		"?", "[? ?]", "[(?, ?) (A ?)]", "[(<fun 1 ?>, {?}) (A {?})]", "[(<fun 1 (A ?)>, {<rec 2 ->}) (A {<rec 2 ->})]", "[(<fun 1 (A {?})>, {<rec 2 ->}) (A {<rec 2 ->})]", "[(<fun 1 (A {<rec 2 ->})>, {<rec 2 ->}) (A {<rec 2 ->})]", "[(<fun 1 (A {<rec 2 ->})>, {<rec 2 ->}) (A {<rec 2 ->})]",
	} {
		checkShow(t, heap, "@0", deep, want)
	}
	// The depth is that of cells; another value is shown wherever it is.
	checkShow(t, "pair @1 1; pair @2 2; ref 3", "@0", 2, "((?, 2), 1)")
	checkShow(t, "pair 1 @1; pair 2 @2; ref 3", "@0", 2, "(1, (2, ?))")
	for _, through := range []string{"A", "B"} {
		h := chainHeap(20, through, false, numberVal(1))
		for _, deep := range allDepths {
			checkShown(t, h, cellAt(0), deep)
			if marks := strings.Count(impl.Show(h, cellAt(0), deep), "?"); (marks == 1) != (deep <= impl.MaxShow) {
				t.Errorf("there are %d question marks at the depth %d", marks, deep)
			}
		}
		if got := impl.Show(h, cellAt(8), impl.MaxShow); strings.Contains(got, "?") {
			t.Errorf("twelve cells are shown as %s", got)
		}
	}
}

// TestShowRings: a heap that leads back to itself ends at the depth.
func TestShowRings(t *testing.T) {
	for deep := range 13 {
		checkShow(t, "ref @0", "@0", deep, strings.Repeat("{", deep)+"?"+strings.Repeat("}", deep))
		checkShow(t, "ref @1; ref @0", "@1", deep, strings.Repeat("{", deep)+"?"+strings.Repeat("}", deep))
		checkShow(t, "con A @0", "@0", deep, strings.Repeat("(A ", deep)+"?"+strings.Repeat(")", deep))
		checkShow(t, "env 1 @0", "@0", deep, strings.Repeat("[1 ", deep)+"?"+strings.Repeat("]", deep))
		checkShow(t, "pair @0 1", "@0", deep, strings.Repeat("(", deep)+"?"+strings.Repeat(", 1)", deep))
		want := "?"
		for level := deep; level > 0; level-- {
			if level%2 == 1 {
				want = "<rec 3 " + want + ">"
			} else {
				want = "[" + want + " -]"
			}
		}
		checkShow(t, "rec 3 @1; env @0 -", "@0", deep, want)
	}
	if marks := strings.Count(impl.Show(heapOf("pair @0 @0"), cellAt(0), impl.MaxShow), "?"); marks != 1<<impl.MaxShow {
		t.Errorf("there are %d question marks", marks)
	}
}

// TestShowBadArguments: a value that is not valid is not shown, nor is any value
// in a heap that is not valid.
func TestShowBadArguments(t *testing.T) {
	for _, v := range []impl.Val{{}, {Kind: 8}, {Kind: -1}, cellAt(2), cellAt(-1), cellAt(math.MaxInt), numberVal(impl.MaxInt + 1), numberVal(impl.MinInt - 1), {Kind: impl.VInt, S: "x"}, {Kind: impl.VStr, N: 1}, {Kind: impl.VUnit, N: 1}, {Kind: impl.VUnit, S: "x"}, {Kind: impl.VTag}, {Kind: impl.VTag, N: 1, S: "A"}, {Kind: impl.VGiven}, {Kind: impl.VCell, S: "x"}, {Kind: impl.VNone, N: 1}} {
		for _, deep := range allDepths {
			if got := impl.Show(heapOf("ref 1; ref 2"), v, deep); got != "" {
				t.Errorf("%+v is shown as %q at the depth %d", v, got, deep)
			}
		}
	}
	for _, h := range [][]impl.Cell{{{}}, {{Kind: impl.CellRef}}, append(heapOf("ref 1"), impl.Cell{Kind: 7, A: numberVal(1)}), heapOf("ref 1; ref @2"), heapOf("ref 1; ref @-1"), {{Kind: impl.CellRef, N: 1, A: numberVal(1)}}, chainHeap(impl.MaxCells+1, "A", false, numberVal(1))} {
		for _, word := range []string{"1", "()", "-", "@0", `"a"`} {
			for _, deep := range allDepths {
				if got := impl.Show(h, valOf(word), deep); got != "" {
					t.Errorf("%s is shown as %q in %s", word, got, heapText(h, nil))
				}
			}
		}
	}
}
