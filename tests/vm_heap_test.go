package tests

import (
	"math"
	"strconv"
	"strings"
	"testing"

	"loop.example/g00395/impl"
)

// waste makes so many cells that are dead at once, and leaves nothing.
func waste(count int) string { return strings.Repeat("unit; ref; get; pop; ", count) }

// tellRef prints the number of a reference, which an instruction pushes.
func tellRef(push string) string { return "given print; " + push + "; get; call; pop; " }

// TestVmCellsOfEveryOp has instructions that need cells, and those that need
// none.
func TestVmCellsOfEveryOp(t *testing.T) {
	for text, least := range map[string]int{
		"unit; con 1 A": 1, "unit; unit; pair": 1, "unit; ref": 1, "fun 0": 1, "unit; bind; unit": 1, "rec 0; unit": 2, "unit; arm 0 0; unit": 0, "unit; arm 1 0; unit": 1, "unit; unit; pair; arm 2 0; unit": 2,
		"fun @f; unit; call; ret; f: unit": 1, "rec @f; var 0; unit; call; ret; f: unit": 4, "try @h; noarm; h: unit": 1, "try 0; ok; unit": 0, "unit; ref; get": 1, "unit; ref; unit; set": 1,
		"int 1": 0, `str "a"`: 0, "unit": 0, "con 0 A": 0, "given print": 0, "int 1; int 2; prim +": 0, "unit; bind; var 0": 1, "unit; bind; drop 1; unit": 1, "con 0 true; ifnot 0; unit": 0, "unit; pop; unit": 0, "jump @j; j: unit": 0, `given size; str "a"; call`: 0,
	} {
		checkLeast(t, text+"; ret", "_ | x | (x, y)", least, "done")
	}
	checkLeast(t, "given print; int 1; call; pop; given say; str \"a\"; call; ret", "", 0, "1|a|done")
	checkLeast(t, "int 1; int 0; prim /", "", 0, "raised -2")
	checkLeast(t, "int 5; raise", "", 0, "raised 5")
}

// TestVmAllCellsAtOnce has code that needs all of its cells to the end.
func TestVmAllCellsAtOnce(t *testing.T) {
	for _, count := range []int{1, 2, 3, 10, 100} {
		checkLeast(t, strings.Repeat("unit; ref; ", count)+"ret", "", count, "done")
		checkLeast(t, "unit; "+strings.Repeat("ref; ", count)+"ret", "", count, "done")
		checkLeast(t, "unit; "+strings.Repeat("con 1 A; ", count)+"ret", "", count, "done")
		checkLeast(t, strings.Repeat("unit; ", count+1)+strings.Repeat("pair; ", count)+"ret", "", count, "done")
		checkLeast(t, strings.Repeat("unit; bind; ", count)+"unit; ret", "", count, "done")
		checkLeast(t, strings.Repeat("fun 0; ", count)+"ret", "", count, "done")
		checkLeast(t, strings.Repeat("rec 0; ", count)+"unit; ret", "", 2*count, "done")
	}
}

// TestVmDeadCells has code whose cells are dead soon.
func TestVmDeadCells(t *testing.T) {
	for _, count := range []int{1, 2, 10, 100} {
		checkLeast(t, waste(count)+"unit; ret", "", 1, "done")
		checkLeast(t, strings.Repeat("unit; bind; drop 1; ", count)+"unit; ret", "", 1, "done")
		checkLeast(t, strings.Repeat("unit; bind; unit; bind; drop 2; ", count)+"unit; ret", "", 2, "done")
		checkLeast(t, strings.Repeat("unit; unit; pair; arm 0 0; drop 2; ", count)+"unit; ret", "(x, y)", 2, "done")
		checkLeast(t, strings.Repeat("rec 0; drop 1; ", count)+"unit; ret", "", 2, "done")
		checkLeast(t, strings.Repeat("unit; con 1 A; arm 0 0; ", count)+"unit; ret", "_", 1, "done")
		checkLeast(t, "unit; ref; bind; "+strings.Repeat("var 0; unit; con 1 A; set; pop; ", count)+"unit; ret", "", 2+min(count, 2), "done")
	}
	// A call leaves the binding of its argument.
	checkLeast(t, "fun @f; bind; "+strings.Repeat("var 0; unit; call; pop; ", 20)+"unit; ret; f: unit; ret", "", 3, "done")
	// A function that is called is dead if nothing else leads to it.
	checkLeast(t, strings.Repeat("fun @f; unit; call; pop; ", 20)+"unit; ret; f: unit; ret", "", 1, "done")
	checkLeast(t, strings.Repeat("rec @f; var 0; drop 1; unit; call; pop; ", 20)+"unit; ret; f: unit; ret", "", 3, "done")
}

// TestVmKeepsTheStack: every value of the stack is kept, with all that it leads
// to.
func TestVmKeepsTheStack(t *testing.T) {
	checkLeast(t, "int 1; ref; int 2; ref; int 3; ref; "+waste(5)+"bind; bind; bind; "+tellRef("var 2")+tellRef("var 1")+tellRef("var 0")+"unit; ret", "", 6, "3|2|1|done")
	checkLeast(t, waste(3)+"int 1; ref; ref; ref; "+waste(3)+"get; get; get; raise", "", 4, "raised 1")
	checkLeast(t, "int 1; ref; con 1 A; int 2; ref; pair; "+waste(9)+"arm 0 @no; "+tellRef("var 1")+tellRef("var 0")+"no: unit; ret", "(A x, y)", 5, "1|2|done")
	// A function on the stack keeps its bindings.
	checkLeast(t, "int 7; ref; bind; fun @f; drop 1; "+waste(4)+"unit; call; ret; f: "+tellRef("var 1")+"unit; ret", "", 4, "7|done")
	checkLeast(t, "int 7; ref; bind; rec @f; var 0; drop 2; "+waste(4)+"unit; call; ret; f: "+tellRef("var 2")+"unit; ret", "", 5, "7|done")
}

// TestVmKeepsTheEnvironments: those of the machine, of the frames and of the
// handlers are kept.
func TestVmKeepsTheEnvironments(t *testing.T) {
	checkLeast(t, "int 1; ref; bind; int 2; ref; bind; "+waste(5)+tellRef("var 0")+tellRef("var 1")+"unit; ret", "", 5, "2|1|done")
	// The function has no bindings of its caller.
	checkLeast(t, "fun @f; int 1; ref; bind; int 2; ref; bind; unit; call; pop; "+tellRef("var 0")+tellRef("var 1")+"unit; ret; f: "+waste(5)+"unit; ret", "", 6, "2|1|done")
	checkLeast(t, "fun @f; bind; int 1; ref; bind; var 1; unit; call; pop; "+tellRef("var 0")+"unit; ret; f: fun @g; int 2; ref; bind; unit; call; pop; "+tellRef("var 0")+"unit; ret; g: "+waste(5)+"unit; ret", "", 9, "2|1|done")
	// A handler has bindings that are dropped.
	checkLeast(t, "int 1; ref; bind; int 2; ref; bind; try @h; drop 2; "+waste(5)+"noarm; h: "+tellRef("var 1")+tellRef("var 2")+"unit; ret", "", 5, "2|1|done")
	checkLeast(t, "int 1; ref; bind; try @h; int 2; ref; bind; try @i; drop 2; "+waste(5)+"noarm; i: "+tellRef("var 1")+"drop 3; "+waste(5)+"noarm; h: "+tellRef("var 1")+"unit; ret", "", 5, "2|1|done")
	checkLeast(t, "int 1; ref; bind; try @h; drop 1; try 0; ok; "+waste(5)+"noarm; h: "+tellRef("var 1")+"unit; ret", "", 3, "1|done")
}

// TestVmKeepsNewValues: the values of the cell that is about to be created are
// kept, although they are no longer on the stack.
func TestVmKeepsNewValues(t *testing.T) {
	checkLeast(t, waste(1)+"int 1; ref; int 2; ref; pair; arm 0 @no; "+tellRef("var 1")+tellRef("var 0")+"no: unit; ret", "(x, y)", 4, "1|2|done")
	// With three cells, the pair is created in place of the waste.
	checkLeast(t, waste(1)+"int 1; ref; int 2; ref; pair; ret", "", 3, "done")
	checkLeast(t, waste(2)+"int 1; ref; con 1 A; arm 0 @no; "+tellRef("var 0")+"no: unit; ret", "A x", 2, "1|done")
	checkLeast(t, waste(1)+"int 1; ref; ref; get; get; raise", "", 2, "raised 1")
	checkLeast(t, waste(1)+"int 1; ref; bind; "+tellRef("var 0")+"unit; ret", "", 2, "1|done")
	// The cells of a binding and of a function keep the bindings around them.
	checkLeast(t, "int 1; bind; "+waste(1)+"int 2; bind; given print; var 1; call; ret", "", 2, "1|done")
	checkLeast(t, "int 1; bind; "+waste(1)+"fun @f; unit; call; ret; f: given print; var 1; call; ret", "", 2, "1|done")
	checkLeast(t, "int 1; bind; "+waste(2)+"rec @f; var 0; unit; call; ret; f: given print; var 2; call; ret", "", 5, "1|done")
	// What the new cell does not have is not kept.
	checkLeast(t, "unit; ref; get; con 1 A; ret", "", 1, "done")
	checkLeast(t, "unit; ref; unit; set; con 1 A; ret", "", 1, "done")
}

// TestVmKeepsTheArgument: while the binding of a recursive function is created,
// its argument is kept.
func TestVmKeepsTheArgument(t *testing.T) {
	for wasted := range 6 {
		text := waste(wasted) + "rec @f; var 0; " + waste(wasted) + "int 5; ref; call; ret; f: " + tellRef("var 0") + "unit; ret"
		checkLeast(t, text, "", 5, "5|done")
		text = waste(wasted) + "fun @f; " + waste(wasted) + "int 5; ref; call; ret; f: " + tellRef("var 0") + "unit; ret"
		checkLeast(t, text, "", 2, "5|done")
		// An argument that is a list of cells.
		text = waste(wasted) + "rec @f; var 0; " + waste(wasted) + "int 5; ref; ref; ref; call; ret; f: given print; var 0; get; get; get; call; ret"
		checkLeast(t, text, "", 7, "5|done")
		// The function itself is kept by its binding, not by the stack.
		text = waste(wasted) + "rec @f; var 0; drop 1; " + waste(wasted) + "int 5; ref; call; ret; f: " + tellRef("var 0") + "var 1; ret"
		checkLeast(t, text, "", 4, "5|done")
	}
}

// TestVmKeepsTheNames: while the names of a pattern are bound, the values of
// the others are kept, but not the value that was matched.
func TestVmKeepsTheNames(t *testing.T) {
	for wasted := range 6 {
		start := waste(wasted) + "int 1; ref; int 2; ref; pair; " + waste(wasted)
		checkLeast(t, start+"arm 0 @no; "+tellRef("var 1")+tellRef("var 0")+"no: unit; ret", "(x, y)", 4, "1|2|done")
		// A part that is not bound is dead.
		checkLeast(t, start+"arm 0 @no; "+tellRef("var 0")+"no: unit; ret", "(_, y)", map[bool]int{true: 3, false: 4}[wasted == 0], "2|done")
		checkLeast(t, start+"arm 0 @no; no: unit; ret", "(_, _)", map[bool]int{true: 3, false: 4}[wasted == 0], "done")
		// If the pattern does not match, the value stays.
		checkLeast(t, start+"arm 0 @no; no: unit; ref; pop", "(x, 3)", 4, "bad")
	}
	names := "int 1; ref; int 2; ref; int 3; ref; int 4; ref; pair; pair; pair; "
	check4 := tellRef("var 3") + tellRef("var 2") + tellRef("var 1") + tellRef("var 0")
	checkLeast(t, names+"arm 0 @no; "+check4+"no: unit; ret", "(a, (b, (c, d)))", 8, "1|2|3|4|done")
	checkLeast(t, waste(8)+names+waste(8)+"arm 0 @no; "+check4+"no: unit; ret", "(a, (b, (c, d)))", 8, "1|2|3|4|done")
	// A name for the whole value keeps it.
	checkLeast(t, "int 1; ref; int 2; ref; pair; arm 0 @no; var 0; ret; no: noarm", "x", 4, "done")
	checkLeast(t, "int 1; int 2; pair; arm 0 @no; unit; ret; no: noarm", "(x, y)", 2, "done")
	checkLeast(t, "int 1; int 2; pair; con 1 ::; arm 0 @no; unit; ret; no: noarm", "x :: y", 2, "done")
	// The value is kept as long as it is somewhere else.
	checkLeast(t, "int 1; int 2; pair; bind; var 0; arm 0 @no; unit; ret; no: noarm", "(x, y)", 4, "done")
}

// TestVmRaiserIsDead: while the number is bound, neither the environment of the
// raiser counts nor what was on the stack and in the frames above the handler.
func TestVmRaiserIsDead(t *testing.T) {
	checkLeast(t, "try @h; int 1; bind; int 2; bind; noarm; h: unit; ret", "", 2, "done")
	checkLeast(t, "try @h; int 1; bind; int 2; bind; noarm; h: "+strings.Repeat("unit; bind; ", 1)+"unit; ret", "", 2, "done")
	checkLeast(t, "try @h; int 1; bind; noarm; h: unit; ret", "", 1, "done")
	checkLeast(t, "int 9; bind; try @h; int 1; bind; noarm; h: given print; var 1; call; ret", "", 2, "9|done")
	checkLeast(t, "try @h; unit; ref; noarm; h: unit; ret", "", 1, "done")
	checkLeast(t, "try @h; unit; ref; ref; ref; int 5; raise; h: unit; ret", "", 3, "done")
	checkLeast(t, "try @h; unit; ref; ref; ref; int 5; raise; h: "+strings.Repeat("unit; ref; ", 2)+"unit; ret", "", 3, "done")
	// A frame that is gone: its environment had three bindings.
	checkLeast(t, "try @h; "+strings.Repeat("unit; bind; ", 3)+"fun @f; unit; call; f: noarm; h: unit; ret", "", 4, "done")
	checkLeast(t, "try @h; "+strings.Repeat("unit; bind; ", 3)+"fun @f; unit; call; f: noarm; h: "+strings.Repeat("unit; bind; ", 3)+"unit; ret", "", 4, "done")
	// An outer handler still counts, and so does a frame below.
	checkLeast(t, "int 1; ref; bind; try @o; drop 1; try @h; noarm; h: noarm; o: "+tellRef("var 1")+"unit; ret", "", 3, "1|done")
	checkLeast(t, "fun @f; int 1; ref; bind; unit; call; pop; "+tellRef("var 0")+"unit; ret; f: try @h; "+waste(5)+"noarm; h: unit; ret", "", 4, "1|done")
	// The values below the handler stay.
	checkLeast(t, "int 7; ref; try @h; int 1; bind; "+waste(3)+"noarm; h: get; raise", "", 3, "raised 7")
}

// TestVmRemovedPlaces: the environment of a frame or a handler counts only as
// long as that is there.
func TestVmRemovedPlaces(t *testing.T) {
	three := strings.Repeat("unit; bind; ", 3)
	checkLeast(t, three+"drop 3; unit; ref; ref; ref; ret", "", 3, "done")
	checkLeast(t, three+"try 0; drop 3; ok; unit; ref; ref; ref; ret", "", 3, "done")
	checkLeast(t, three+"try 0; drop 3; unit; ref; ref; ref; ret", "", 6, "done")
	checkLeast(t, "fun @f; unit; call; pop; unit; ref; ref; ref; ref; ret; f: "+three+"unit; ret", "", 4, "done")
	checkLeast(t, "fun @f; bind; "+three+"var 3; unit; call; ret; f: unit; ref; ref; ref; ret", "", 9, "done")
	// OpSet: the old value of a reference is dead.
	checkLeast(t, "unit; ref; ref; ref; ref; bind; var 0; unit; set; pop; unit; ref; ref; ref; ret", "", 5, "done")
	// The last value counts, too.
	checkLeast(t, "unit; ref; bind; var 0; unit; ref; ref; ref; set; pop; unit; ref; ret", "", 6, "done")
}

// TestVmSharedAndRings has cells that several others lead to, and cells that
// lead back to themselves, over several collections.
func TestVmSharedAndRings(t *testing.T) {
	// Both parts of the pair are the same reference after every collection.
	checkLeast(t, "int 1; ref; bind; var 0; var 0; pair; drop 1; "+waste(7)+"arm 0 @no; var 1; int 5; set; pop; "+waste(7)+tellRef("var 0")+"no: unit; ret", "(x, y)", 4, "5|done")
	// A reference to itself, and two that lead to each other.
	checkLeast(t, "unit; ref; bind; var 0; var 0; set; pop; "+waste(7)+"var 0; get; get; int 3; set; pop; "+waste(2)+tellRef("var 0")+"unit; ret", "", 3, "3|done")
	checkLeast(t, "unit; ref; bind; var 0; ref; bind; var 1; var 0; set; pop; "+waste(7)+"var 1; get; get; get; int 3; set; pop; "+waste(7)+tellRef("var 0")+"unit; ret", "", 5, "3|done")
	// A ring that nothing leads to is dead.
	ring := "unit; ref; bind; var 0; var 0; set; pop; drop 1; "
	checkLeast(t, strings.Repeat(ring, 30)+"unit; ret", "", 2, "done")
	ring = "unit; ref; bind; fun 0; var 0; ref; pair; bind; var 1; var 0; set; pop; drop 2; "
	checkLeast(t, strings.Repeat(ring, 30)+"unit; ret", "", 6, "done")
	// A recursive function is in the environment in which it is called.
	checkLeast(t, "rec @f; var 0; int 5; call; ret; f: var 0; int 1; prim <; ifnot @m; unit; ret; m: "+waste(3)+"var 1; var 0; int 1; prim -; call; ret", "", 14, "done")
}

// TestVmGreatHeaps: no heap has more than MaxCells cells.
func TestVmGreatHeaps(t *testing.T) {
	binds := codeOf(t, "l: unit; bind; jump @l", "")
	for _, size := range []int{-1, 0, 1, 2, 100, impl.MaxCells - 1, impl.MaxCells, impl.MaxCells + 1, 5000, impl.MaxInt, math.MaxInt, impl.MinInt, math.MinInt} {
		want := "heap in " + strconv.Itoa(3*min(max(size, 0), 4000)+2)
		if got := outcomeText(ran(t, binds, nil, impl.MaxSteps, size)); got != want {
			t.Errorf("the outcome is %s, not %s, with %d cells", got, want, size)
		}
	}
	if impl.MaxCells != 4000 || impl.OutHeap != 5 {
		t.Error("the constants have other numbers")
	}
	// All of MaxCells cells are needed at the end, after others have died.
	exact := "rec 0; drop 1; " + strings.Repeat("rec 0; ", 1980) + strings.Repeat(strings.Repeat("rec 0; ", 10)+"drop 10; ", 3) + strings.Repeat("rec 0; ", 20)
	checkGreat := func(text string, kinds ...int) {
		t.Helper()
		c := codeOf(t, text, "")
		for i, size := range []int{impl.MaxCells - 1, impl.MaxCells, impl.MaxCells + 1, math.MaxInt} {
			if o := ran(t, c, nil, impl.MaxSteps, size); o.Kind != kinds[min(i, 1)] {
				t.Errorf("the outcome is %s with %d cells", outcomeText(o), size)
			}
		}
	}
	checkGreat(exact+"unit; ret", impl.OutHeap, impl.OutDone)
	checkGreat(exact+"unit; ref; ret", impl.OutHeap, impl.OutHeap)
}

// TestVmSizesBelowZero: a size below 0 is as 0.
func TestVmSizesBelowZero(t *testing.T) {
	for _, text := range []string{"unit; ret", "unit; ref; ret", "fun 0; ret", "given print; int 1; call; pop; rec 0; unit; ret", "try @h; int 1; raise; h: unit; ret", "unit; arm 0 0; unit; ret"} {
		c := codeOf(t, text, "x")
		want := ran(t, c, nil, 100, 0)
		for _, size := range []int{-1, -4000, impl.MinInt, math.MinInt} {
			if o := ran(t, c, nil, 100, size); !sameOutcome(o, want) {
				t.Errorf("%s: the outcome is %s with %d cells", text, outcomeText(o), size)
			}
		}
	}
}
