package tests

import (
	"math"
	"reflect"
	"slices"
	"strings"
	"testing"

	"loop.example/g00395/impl"
)

// checkVmSteps checks how code ends and in how many steps, and then every limit
// up to more than it needs.
func checkVmSteps(t *testing.T, c impl.Code, what string, want string, inputs ...int) {
	t.Helper()
	whole := ran(t, c, inputs, impl.MaxSteps, impl.MaxCells)
	if got := outcomeText(whole); got != want {
		t.Errorf("%s: the outcome is %s, not %s", what, got, want)
	}
	for most := range whole.Steps + 3 {
		o := ran(t, c, inputs, most, impl.MaxCells)
		if most >= whole.Steps {
			if !sameOutcome(o, whole) {
				t.Errorf("%s: the outcome is %s with at most %d steps", what, outcomeText(o), most)
			}
			continue
		}
		if o.Kind != impl.OutSteps || o.N != 0 || o.Steps != most || !beginsWith(whole.Trace, o.Trace) {
			t.Errorf("%s: the outcome is %s with at most %d steps", what, outcomeText(o), most)
		}
	}
}

// TestVmStepsOfPrograms has every instruction count once.
func TestVmStepsOfPrograms(t *testing.T) {
	for _, e := range [][2]string{
		{"1", "done in 2"}, {"()", "done in 2"}, {"1 + 2", "done in 4"}, {"print (1 + 2)", "3|done in 6"}, {"let x = 1 in x", "done in 5"}, {"fun x -> x", "done in 3"}, {"(fun x -> x) 1", "done in 7"}, {"ref 1", "done in 3"}, {"!(ref 1)", "done in 4"}, {"ref 1 := 2", "done in 5"},
		{"if true then 1 else 2", "done in 5"}, {"if false then 1 else 2", "done in 4"}, {"(); 1", "done in 4"}, {"raise 5", "raised 5 in 2"}, {"try raise 5 with x -> x end", "done in 6"}, {"try 1 with x -> x end", "done in 5"}, {"1 / 0", "raised -2 in 3"}, {"1 1", "bad in 3"}, {"read ()", "raised -3 in 3"},
		{"match 1 with 0 -> 1 | 1 -> 2 | x -> 3 end", "done in 7"}, {"match 1 with 0 -> 1 | 2 -> 2 end", "raised -1 in 4"}, {"match (1, 2) with (x, y) -> print (x + y) end", "3|done in 12"}, {"let rec f x = x in f 1", "done in 9"},
		{"let rec f x = if x < 1 then 0 else f (x - 1) in f 2", "done in 34"}, {"print 1; print 2; say \"a\"", "1|2|a|done in 12"}, {"(1, 2)", "done in 4"}, {"1 :: []", "done in 5"}, {"A 1", "done in 3"}, {"A", "done in 2"},
	} {
		checkVmSteps(t, compiledText(t, e[0]), e[0], e[1])
	}
}

// TestVmStepsOfCode has code that a compiler does not write.
func TestVmStepsOfCode(t *testing.T) {
	for _, e := range [][2]string{
		{"ret", "bad in 1"}, {"unit", "bad in 1"}, {"unit; drop 1", "bad in 2"}, {"unit; ret; unit", "done in 2"}, {"jump 1; jump 2; jump 3; unit; ret", "done in 5"}, {"try @h; try @h; noarm; h: noarm", "raised -1 in 5"}, {"fun 0; bind; var 0; var 0; ret", "done in 5"},
		{"given print; int 1; call; pop; given print; int 2; call; pop; pop", "1|2|bad in 9"}, {"given print; int 1; call; ref; ret", "1|done in 5"},
	} {
		checkVmSteps(t, codeOf(t, e[0], ""), e[0], e[1])
	}
}

// TestVmClampsTheLimit has limits below 0 and above MaxSteps.
func TestVmClampsTheLimit(t *testing.T) {
	loop := compiledText(t, "let r = ref 0 in let rec f x = (print x; r := x; f (x + 1)) in try f 0 with e -> 1 end")
	counting := codeOf(t, "int 0; bind; l: given print; var 0; call; pop; var 0; int 1; prim +; drop 1; bind; jump @l", "")
	for _, most := range []int{0, -1, -5, impl.MinInt, math.MinInt} {
		for _, c := range []impl.Code{loop, counting, codeOf(t, "unit; ret", ""), codeOf(t, "ret", ""), codeOf(t, "fun 0", "")} {
			if o := ran(t, c, []int{1}, most, 100); o.Kind != impl.OutSteps || o.N != 0 || o.Steps != 0 || len(o.Trace) > 0 {
				t.Errorf("the outcome is %s with at most %d steps", outcomeText(o), most)
			}
		}
	}
	whole := ran(t, counting, nil, impl.MaxSteps, 2)
	if whole.Kind != impl.OutSteps || whole.Steps != 20000 || len(whole.Trace) != 2000 {
		t.Errorf("the outcome of a loop has %d lines after %d steps", len(whole.Trace), whole.Steps)
	}
	for _, most := range []int{20001, 20002, 100000, impl.MaxInt, math.MaxInt} {
		if o := ran(t, counting, nil, most, 2); !sameOutcome(o, whole) {
			t.Errorf("there are %d steps with at most %d", o.Steps, most)
		}
		if o := ran(t, codeOf(t, "unit; ret", ""), nil, most, most); o.Kind != impl.OutDone || o.Steps != 2 {
			t.Errorf("the outcome is %s with at most %d steps", outcomeText(o), most)
		}
	}
	if o := ran(t, counting, nil, 19999, 2); o.Steps != 19999 || !beginsWith(whole.Trace, o.Trace) {
		t.Errorf("there are %d steps with one less than MaxSteps", o.Steps)
	}
}

// TestVmEndsAtTheLimit has code that needs MaxSteps steps, and one more.
func TestVmEndsAtTheLimit(t *testing.T) {
	// The start takes 2 steps, every round 9, the last one 6.
	count := "int 2221; bind; l: var 0; int 1; prim <; ifnot @m; unit; ret; m: var 0; int 1; prim -; drop 1; bind; jump @l"
	if got := outcomeText(ran(t, codeOf(t, count, ""), nil, impl.MaxSteps, 1)); got != "steps in 20000" {
		t.Errorf("the outcome is %s", got)
	}
	exact := strings.Replace(count, "int 2221; bind", "int 1999; bind", 1)
	steps := 2 + 1999*10 + 6
	if got := outcomeText(ran(t, codeOf(t, exact, ""), nil, impl.MaxSteps, 1)); got != "done in "+impl.NumText(steps) {
		t.Errorf("the outcome is %s", got)
	}
	exact = "unit; pop; " + exact
	for most, want := range map[int]string{impl.MaxSteps: "done in 20000", impl.MaxSteps - 1: "steps in 19999", math.MaxInt: "done in 20000", 0: "steps in 0"} {
		if got := outcomeText(ran(t, codeOf(t, exact, ""), nil, most, 1)); got != want {
			t.Errorf("the outcome is %s with at most %d steps", got, most)
		}
	}
	if got := outcomeText(ran(t, codeOf(t, "drop 0; "+exact, ""), nil, math.MaxInt, 1)); got != "steps in 20000" {
		t.Errorf("the outcome is %s with one step too many", got)
	}
	if got := outcomeText(ran(t, codeOf(t, "drop 0; "+strings.Replace(exact, "unit; ret", "unit; pop; pop", 1), ""), nil, math.MaxInt, 1)); got != "steps in 20000" {
		t.Errorf("the outcome is %s where it would be bad", got)
	}
}

// TestVmDeepRuns has as many values, frames and handlers as there can be.
func TestVmDeepRuns(t *testing.T) {
	for _, text := range []string{"unit; jump 0", "try 0; jump 0", "l: try @l; unit; jump @l", "f: fun @g; unit; call; g: drop 1; jump @f"} {
		if got := outcomeText(ran(t, codeOf(t, text, ""), nil, math.MaxInt, 1)); got != "steps in 20000" {
			t.Errorf("%s: the outcome is %s", text, got)
		}
	}
	// Every call keeps the binding of its caller, and its function has that, too.
	if got := outcomeText(ran(t, codeOf(t, "f: fun @f; unit; call", ""), nil, math.MaxInt, impl.MaxCells)); got != "heap in "+impl.NumText(3*impl.MaxCells+1) {
		t.Errorf("the outcome is %s", got)
	}
	// 1500 handlers are left one after another, each of which raises again.
	text := "int 1500; bind; l: try @h; var 0; int 1; prim -; drop 1; bind; var 0; int 0; prim =; ifnot @l; noarm; h: drop 1; noarm"
	if got := outcomeText(ran(t, codeOf(t, text, ""), nil, math.MaxInt, impl.MaxCells)); got != "raised -1 in "+impl.NumText(2+1500*10+1+1500*2) {
		t.Errorf("the outcome is %s", got)
	}
}

// TestVmBadCode: for code that is not valid there is nothing, whatever the
// limits are.
func TestVmBadCode(t *testing.T) {
	check := func(c impl.Code) {
		t.Helper()
		for _, most := range []int{math.MinInt, -1, 0, 1, 100, math.MaxInt} {
			for _, size := range []int{math.MinInt, -1, 0, 100, math.MaxInt} {
				if o := impl.RunCode(c, []int{1, 2}, most, size); o.Kind != 0 || o.N != 0 || o.Steps != 0 || len(o.Trace) > 0 {
					t.Errorf("the outcome is %s for %s", outcomeText(o), brief(codeText(c)))
				}
			}
		}
	}
	ret := impl.Ins{Op: impl.OpRet}
	for _, ins := range [][]impl.Ins{
		nil, {}, {{}}, {{Op: 26}}, {{Op: -1}}, {ret, {}}, {{Op: impl.OpUnit}, ret, {Op: impl.OpRet, A: 1}}, {{Op: impl.OpInt, A: impl.MaxInt + 1}, ret}, {{Op: impl.OpInt, A: math.MinInt}, ret},
		{{Op: impl.OpFun, A: 2}, ret}, {{Op: impl.OpFun, A: -1}, ret}, {{Op: impl.OpRec, A: 2}, ret}, {{Op: impl.OpTry, A: 2}, ret}, {{Op: impl.OpJump, A: 1}}, {{Op: impl.OpIfNot, A: math.MaxInt}, ret}, {{Op: impl.OpArm}, ret},
		{{Op: impl.OpVar, A: impl.MaxCode + 1}, ret}, {{Op: impl.OpVar, A: -1}, ret}, {{Op: impl.OpDrop, A: impl.MaxCode + 1}, ret}, {{Op: impl.OpDrop, A: -1}, ret}, {{Op: impl.OpGiven, S: "x"}, ret}, {{Op: impl.OpGiven}, ret}, {{Op: impl.OpPrim, S: "&"}, ret}, {{Op: impl.OpPrim}, ret},
		{{Op: impl.OpCon, S: "a"}, ret}, {{Op: impl.OpCon}, ret}, {{Op: impl.OpCon, A: 2, S: "A"}, ret}, {{Op: impl.OpCon, S: "::"}, ret}, {{Op: impl.OpCon, A: 1, S: "true"}, ret}, {{Op: impl.OpUnit, S: "x"}, ret}, {{Op: impl.OpUnit, B: 1}, ret},
		slices.Repeat([]impl.Ins{{Op: impl.OpUnit}}, impl.MaxCode+1),
	} {
		check(impl.Code{Ins: ins})
		check(impl.Code{Ins: ins, Pats: []impl.Pat{{}}})
	}
	// Every part counts, whether it is executed or not.
	check(impl.Code{Ins: []impl.Ins{{Op: impl.OpUnit}, ret}, Pats: []impl.Pat{{}}})
	check(impl.Code{Ins: []impl.Ins{{Op: impl.OpUnit}, ret}, Pats: append(somePats(t), impl.Pat{Nodes: []impl.PNode{{Kind: 9}}})})
	check(impl.Code{Ins: []impl.Ins{{Op: impl.OpUnit}, {Op: impl.OpArm, A: 4}, ret}, Pats: somePats(t)})
	check(impl.Code{Ins: []impl.Ins{{Op: impl.OpUnit}, {Op: impl.OpArm, B: 3}, ret}, Pats: somePats(t)})
	if o := ran(t, impl.Code{Ins: slices.Repeat([]impl.Ins{{Op: impl.OpUnit}}, impl.MaxCode)}, nil, impl.MaxSteps, 0); o.Kind != impl.OutBad || o.Steps != impl.MaxCode {
		t.Errorf("the outcome of MaxCode instructions is %s", outcomeText(o))
	}
	if o := ran(t, impl.Code{Ins: []impl.Ins{{Op: impl.OpUnit}, ret}, Pats: somePats(t)}, nil, 10, 0); o.Kind != impl.OutDone {
		t.Errorf("the outcome with patterns that no OpArm has is %s", outcomeText(o))
	}
}

// TestVmInputs: the numbers are read in their order, each once.
func TestVmInputs(t *testing.T) {
	c := compiledText(t, "let rec f x = (print (read ()); f x) in f 1")
	for _, inputs := range [][]int{nil, {}, {5}, {5, 5}, {1, 2, 3}, {impl.MaxInt, impl.MaxInt + 1, math.MaxInt, math.MinInt, impl.MinInt - 1, -1}, slices.Repeat([]int{7}, 200)} {
		o := ran(t, c, inputs, impl.MaxSteps, impl.MaxCells)
		want := []string{}
		for _, n := range inputs {
			want = append(want, impl.NumText(impl.Wrap(n)))
		}
		if o.Kind != impl.OutRaised || o.N != impl.ErrRead || !sameLines(o.Trace, want) {
			t.Errorf("the outcome is %s for %v", brief(outcomeText(o)), inputs)
		}
	}
	if a, b := ran(t, c, nil, 100, 100), ran(t, c, []int{}, 100, 100); !sameOutcome(a, b) {
		t.Errorf("the outcomes are %s and %s without inputs", outcomeText(a), outcomeText(b))
	}
}

// TestVmLeavesItsArguments: nothing is changed or kept, and what is done to a
// result has no influence.
func TestVmLeavesItsArguments(t *testing.T) {
	compiledRun := compiledText(t, everyRun)
	c, inputs := roomyCode(compiledRun), roomy([]int{4, math.MaxInt}, 55)
	code, numbers := wholeCode(c), slices.Clone(inputs[:cap(inputs)])
	want := []string{"10", "-3", "none", "ab", "3", "-3", "-1"}
	for range 2 {
		for _, most := range []int{30, 100, impl.MaxSteps} {
			for _, size := range []int{0, 5, 20, 40, impl.MaxCells} {
				o := impl.RunCode(c, inputs, most, size)
				if !beginsWith(want, o.Trace) || most == impl.MaxSteps && size >= 40 && (o.Kind != impl.OutDone || len(o.Trace) != len(want)) {
					t.Errorf("the outcome is %s", outcomeText(o))
				}
				for i := range o.Trace[:cap(o.Trace)] {
					o.Trace[:cap(o.Trace)][i] = "spoilt"
				}
			}
		}
	}
	if !reflect.DeepEqual(wholeCode(c), code) || !slices.Equal(inputs[:cap(inputs)], numbers) {
		t.Error("an argument has changed")
	}
	first, second := impl.RunCode(c, inputs, impl.MaxSteps, 100), impl.RunCode(c, inputs, impl.MaxSteps, 100)
	first.Trace = append(first.Trace, "more")
	first.Trace[0] = "other"
	if !slices.Equal(second.Trace, want) {
		t.Errorf("another result is changed to %s", strings.Join(second.Trace, "|"))
	}
	inputs[0], inputs[1] = 0, 0
	spoilCode(c)
	if !slices.Equal(second.Trace, want) {
		t.Errorf("the result has changed to %s", strings.Join(second.Trace, "|"))
	}
	broken := roomyCode(compiledRun)
	broken.Ins[0].B = -1
	before := wholeCode(broken)
	impl.RunCode(broken, nil, 100, 100)
	if !reflect.DeepEqual(wholeCode(broken), before) {
		t.Error("an argument that is not valid has changed")
	}
}

// TestVmKeepsNothing: a call does not depend on the calls before it.
func TestVmKeepsNothing(t *testing.T) {
	c, other := compiledText(t, everyRun), compiledText(t, "let rec f x = (say \"x\"; read (); f (ref x)) in f (ref 1)")
	want := ran(t, c, []int{3}, impl.MaxSteps, 40)
	for most := range 100 {
		ran(t, other, []int{1, 2, 3, 4, 5}, most, most/3)
		impl.RunCode(impl.Code{}, []int{1}, most, most)
		if got := ran(t, c, []int{3}, impl.MaxSteps, 40); !sameOutcome(got, want) {
			t.Fatalf("the outcome is %s, not %s", outcomeText(got), outcomeText(want))
		}
	}
}

// someOutcomes have all fields at several values.
func someOutcomes() []impl.Outcome {
	list := []impl.Outcome{}
	for _, kind := range []int{0, impl.OutDone, impl.OutRaised, impl.OutHeap, -1, 99} {
		for _, n := range []int{0, 1, -2, math.MaxInt} {
			for _, steps := range []int{0, 7} {
				for _, trace := range [][]string{nil, {}, {""}, {"1"}, {"1", "2"}, {"1", ""}, {"2", "1"}, {"12"}, {"1", "2", "3"}} {
					list = append(list, impl.Outcome{Kind: kind, N: n, Trace: trace, Steps: steps})
				}
			}
		}
	}
	return list
}

// TestAlikeAndBegins compares all outcomes of a few.
func TestAlikeAndBegins(t *testing.T) {
	list := someOutcomes()
	for _, a := range list {
		for _, b := range list {
			alike := a.Kind == b.Kind && a.N == b.N && sameLines(a.Trace, b.Trace)
			if got := impl.Alike(a, b); got != alike {
				t.Fatalf("Alike is %v for %+v and %+v", got, a, b)
			}
			if got := impl.Begins(a, b); got != beginsWith(b.Trace, a.Trace) {
				t.Fatalf("Begins is %v for %+v and %+v", got, a, b)
			}
		}
	}
	outcome := func(kind int, n int, steps int, trace ...string) impl.Outcome {
		return impl.Outcome{Kind: kind, N: n, Trace: trace, Steps: steps}
	}
	a := outcome(impl.OutDone, 0, 3, "1", "2")
	for _, e := range []struct {
		b             impl.Outcome
		alike, begins bool
	}{
		{outcome(impl.OutDone, 0, 4, "1", "2"), true, true}, {outcome(impl.OutRaised, 0, 3, "1", "2"), false, true}, {outcome(impl.OutDone, 1, 3, "1", "2"), false, true}, {outcome(impl.OutDone, 0, 3, "1"), false, false},
		{outcome(impl.OutDone, 0, 3, "1", "2", "3"), false, true}, {outcome(impl.OutDone, 0, 3, "1", "3"), false, false}, {outcome(impl.OutDone, 0, 3, "2", "1"), false, false}, {outcome(impl.OutDone, 0, 3), false, false}, {outcome(impl.OutDone, 0, 3, "12"), false, false},
	} {
		if impl.Alike(a, e.b) != e.alike || impl.Alike(e.b, a) != e.alike || impl.Begins(a, e.b) != e.begins {
			t.Errorf("Alike is %v and Begins %v for %+v", impl.Alike(a, e.b), impl.Begins(a, e.b), e.b)
		}
	}
	if !impl.Begins(impl.Outcome{}, a) || impl.Begins(a, impl.Outcome{}) || !impl.Alike(impl.Outcome{}, impl.Outcome{Trace: []string{}}) {
		t.Error("an empty output is no prefix, or nil is not alike to empty")
	}
	// The arguments stay, also behind their ends.
	trace := roomy([]string{"1"}, "2")
	b := impl.Outcome{Kind: impl.OutDone, Trace: trace}
	if impl.Alike(a, b) || !impl.Begins(b, a) || impl.Begins(a, b) || !slices.Equal(trace[:cap(trace)], []string{"1", "2", "2"}) {
		t.Error("what is behind a list counts or has changed")
	}
}
