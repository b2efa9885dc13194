package tests

import (
	"slices"
	"strconv"
	"strings"
	"testing"

	"loop.example/g00395/impl"
)

// vmSorts are instructions that push one value of every kind, by the name of
// the kind. They bind nothing.
var vmSorts = map[string][]string{
	"number":      {"int 7", "int 0", "int -5", "int 4611686018427387903", "int -4611686018427387904"},
	"string":      {`str "a"`, `str ""`, `str "true"`, `str "7"`},
	"unit":        {"unit"},
	"bool":        {"con 0 true", "con 0 false"},
	"tag":         {"con 0 A", "con 0 []", "con 0 True"},
	"constructor": {"int 1; con 1 A", "int 1; int 2; pair; con 1 ::", "con 0 true; con 1 True"},
	"pair":        {"int 1; int 2; pair", "unit; unit; pair", "con 0 true; con 0 false; pair"},
	"given":       {"given print", "given say", "given read", "given size"},
	"function":    {"fun 0", "rec 0; var 0; drop 1"},
	"reference":   {"int 7; ref", "unit; ref", "con 0 true; ref"},
}

var vmKinds = strings.Fields("number string unit bool tag constructor pair given function reference")

// vmOthers are the values of all kinds but these.
func vmOthers(kinds ...string) []string {
	list := []string{}
	for _, kind := range vmKinds {
		if !slices.Contains(kinds, kind) {
			list = append(list, vmSorts[kind]...)
		}
	}
	return list
}

// vmLength is the number of instructions in a text.
func vmLength(text string) int { return 1 + strings.Count(text, ";") }

func TestVmNumbers(t *testing.T) {
	for _, n := range []int{0, 1, -1, 7, 120, impl.MaxInt, impl.MinInt} {
		text := strconv.Itoa(n)
		checkVm(t, "given print; int "+text+"; call; ret", "", text+"|done in 4")
		checkVm(t, "int "+text+"; raise", "", strings.TrimSuffix("raised "+text, " 0")+" in 2")
	}
}

func TestVmStrings(t *testing.T) {
	for _, s := range []string{"", "a", "A b", "\n\x00\xff\"\\", "(* ;", strings.Repeat("x", impl.MaxStr), strings.Repeat("y", impl.MaxText+5)} {
		say := impl.Code{Ins: []impl.Ins{{Op: impl.OpGiven, S: "say"}, {Op: impl.OpStr, S: s}, {Op: impl.OpCall}, {Op: impl.OpRet}}}
		o := ran(t, say, nil, 100, 0)
		if o.Kind != impl.OutDone || o.Steps != 4 || !slices.Equal(o.Trace, []string{s}) {
			t.Errorf("the outcome is %s for a string of %d bytes", brief(outcomeText(o)), len(s))
		}
		size := impl.Code{Ins: []impl.Ins{{Op: impl.OpGiven, S: "print"}, {Op: impl.OpGiven, S: "size"}, {Op: impl.OpStr, S: s}, {Op: impl.OpCall}, {Op: impl.OpCall}, {Op: impl.OpRet}}}
		if got := briefOutcome(ran(t, size, nil, 100, 0)); got != strconv.Itoa(len(s))+"|done" {
			t.Errorf("the outcome is %s for a string of %d bytes", got, len(s))
		}
	}
}

func TestVmUnitAndTags(t *testing.T) {
	checkVm(t, "unit; pop; unit; ret", "", "done in 4")
	checkVm(t, "unit; arm 0 @no; given print; int 1; call; no: ret", "()", "1|done in 6")
	for _, name := range []string{"A", "[]", "true", "false", "Abcdefghijkl"} {
		checkVm(t, "con 0 "+name+"; arm 0 @no; int 1; ret; no: raise", name, "done in 4")
		checkVm(t, "con 0 "+name+"; arm 0 @no; int 1; ret; no: int 9; raise", "B", "raised 9 in 4")
	}
	checkVm(t, "con 0 true; ifnot @no; int 1; raise; no: int 2; raise", "", "raised 1 in 4")
	checkVm(t, "con 0 false; ifnot @no; int 1; raise; no: int 2; raise", "", "raised 2 in 4")
	checkVm(t, "no: con 0 false; ifnot @no", "", "steps in 1000")
}

// TestVmCells has what OpCon, OpPair, OpRef and OpFun make.
func TestVmCells(t *testing.T) {
	checkVm(t, "int 5; con 1 A; arm 0 @no; given print; var 0; call; no: ret", "A x", "5|done in 7")
	checkVm(t, "int 5; con 1 A; arm 0 @no; unit; ret; no: ret", "A", "done in 4")
	checkVm(t, "int 5; con 1 A; arm 0 @no; unit; ret; no: raise", "B x", "bad in 4")
	checkVm(t, "int 5; int 6; pair; arm 0 @no; given print; var 1; call; pop; given print; var 0; call; no: ret", "(x, y)", "5|6|done in 12")
	checkVm(t, "int 5; con 0 []; pair; con 1 ::; arm 0 @no; given print; var 0; call; no: ret", "x :: []", "5|done in 9")
	checkVm(t, "given print; int 5; ref; get; call; ret", "", "5|done in 6")
	checkVm(t, "fun @f; int 5; call; ret; f: given print; var 0; call; ret", "", "5|done in 8")
	// Both values of a pair are popped, and nothing else.
	checkVm(t, "given print; int 1; int 2; pair; arm 0 @no; int 3; call; no: ret", "_", "3|done in 8")
	checkVm(t, "given print; int 3; int 1; con 1 A; arm 0 @no; call; no: ret", "_", "3|done in 7")
	checkVm(t, "given print; int 3; int 1; ref; arm 0 @no; call; no: ret", "_", "3|done in 7")
	checkVm(t, "given print; int 3; fun 0; arm 0 @no; call; no: ret", "_", "3|done in 6")
}

// TestVmReferences: OpSet changes what OpGet pushes, and pushes unit.
func TestVmReferences(t *testing.T) {
	checkVm(t, "int 1; ref; bind; var 0; int 2; set; pop; given print; var 0; get; call; ret", "", "2|done in 12")
	checkVm(t, "int 1; ref; int 2; set; ret", "", "done in 5")
	checkVm(t, "int 9; int 1; ref; int 2; set; pop; raise", "", "raised 9 in 7")
	checkVm(t, "int 9; int 1; ref; get; arm 0 @no; raise; no: ret", "1", "raised 9 in 6")
	// Two references with the same value are not the same.
	checkVm(t, "int 1; ref; bind; int 1; ref; bind; var 0; int 2; set; pop; given print; var 1; get; call; pop; given print; var 0; get; call; ret", "", "1|2|done in 20")
	// A reference to itself.
	checkVm(t, "unit; ref; bind; var 0; var 0; set; pop; var 0; get; get; get; get; int 3; set; pop; given print; var 0; get; call; ret", "", "3|done in 20")
}

// TestVmBindings: the count of OpVar starts at the innermost binding.
func TestVmBindings(t *testing.T) {
	for bindings := range 5 {
		start, taken := "", 0
		for i := range bindings {
			start += "int " + strconv.Itoa(10+i) + "; bind; "
			taken += 2
		}
		for _, count := range []int{0, 1, 2, 3, 4, 5, 6, impl.MaxCode} {
			number := strconv.Itoa(count)
			want := "bad in " + strconv.Itoa(taken+2)
			if count < bindings {
				want = strconv.Itoa(10+bindings-1-count) + "|done in " + strconv.Itoa(taken+4)
			}
			checkVm(t, start+"given print; var "+number+"; call; ret", "", want)
			want = "bad in " + strconv.Itoa(taken+1)
			if count <= bindings {
				want = "done in " + strconv.Itoa(taken+3)
			}
			checkVm(t, start+"drop "+number+"; unit; ret", "", want)
			if count > bindings {
				continue
			}
			// What is left are the outer bindings.
			want = "bad in " + strconv.Itoa(taken+3)
			if count < bindings {
				want = strconv.Itoa(10+bindings-1-count) + "|done in " + strconv.Itoa(taken+5)
			}
			checkVm(t, start+"drop "+number+"; given print; var 0; call; ret", "", want)
		}
	}
	for _, value := range vmOthers() {
		checkVm(t, value+"; bind; var 0; ret", "", "done in "+strconv.Itoa(vmLength(value)+3))
		checkVm(t, value+"; bind; ret", "", "bad in "+strconv.Itoa(vmLength(value)+2))
	}
}

// TestVmRec: OpRec pushes nothing. Its function has its own binding within, and
// nothing that is bound later.
func TestVmRec(t *testing.T) {
	checkVm(t, "rec 0; ret", "", "bad in 2")
	checkVm(t, "rec @f; var 0; int 3; call; ret; f: given print; var 0; call; ret", "", "3|done in 9")
	checkVm(t, "rec @f; var 0; int 3; call; ret; f: var 1; bind; var 0; var 1; pair; ret", "", "done in 11")
	checkVm(t, "int 8; bind; rec @f; var 0; int 3; call; ret; f: given print; var 2; call; ret", "", "8|done in 11")
	checkVm(t, "int 8; bind; rec @f; int 9; bind; var 1; int 3; call; ret; f: given print; var 2; call; ret", "", "8|done in 13")
	checkVm(t, "int 9; bind; rec @f; drop 1; var 0; raise; f: ret", "", "raised 9 in 6")
	checkVm(t, "rec @f; var 0; int 3; call; ret; f: var 2; ret", "", "bad in 5")
	checkVm(t, "rec @f; var 0; int 3; call; ret; f: var 0; ifnot 0; ret", "", "bad in 6")
	// Counts down by calls of itself.
	checkVm(t, "rec @f; var 0; int 3; call; ret; f: var 0; int 1; prim <; ifnot @more; int 0; ret; more: given print; var 0; call; pop; var 1; var 0; int 1; prim -; call; ret", "", "3|2|1|done in 53")
}

// TestVmCalls: a call has the environment of the function and its argument, and
// goes on behind the call with the environment of the caller.
func TestVmCalls(t *testing.T) {
	checkVm(t, "int 4; bind; fun @f; int 5; call; pop; given print; var 0; call; ret; f: int 6; bind; int 7; bind; unit; ret", "", "4|done in 16")
	checkVm(t, "fun @f; int 4; bind; int 5; call; ret; f: var 1; ret", "", "bad in 6")
	checkVm(t, "int 3; bind; fun @f; int 4; bind; int 5; call; ret; f: given print; var 1; call; pop; given print; var 0; call; ret", "", "3|5|done in 16")
	checkVm(t, "fun @f; int 5; call; raise; f: fun @g; bind; var 0; var 1; call; ret; g: var 0; int 1; prim +; ret", "", "raised 6 in 14")
	// The values below the function stay, and the body may take them.
	checkVm(t, "int 9; fun @f; unit; call; pop; raise; f: var 0; ret", "", "raised 9 in 8")
	checkVm(t, "int 9; fun @f; unit; call; ret; f: raise", "", "raised 9 in 5")
	checkVm(t, "int 9; fun @f; unit; call; raise; f: unit; pop; ret", "", "raised 9 in 8")
	checkVm(t, "fun @f; unit; call; int 9; raise; f: int 1; int 2; ret", "", "raised 9 in 8")
	// A body that falls into the code behind it returns from there.
	checkVm(t, "fun @f; int 5; call; raise; f: unit; pop; var 0; ret", "", "raised 5 in 8")
	// The argument may be the function.
	checkVm(t, "fun @f; bind; var 0; var 0; call; int 9; raise; f: var 0; ret", "", "raised 9 in 9")
}

// TestVmReturns: without a frame, OpRet is the end, whatever is on the stack.
func TestVmReturns(t *testing.T) {
	for _, value := range vmOthers() {
		length := vmLength(value)
		checkVm(t, value+"; ret", "", "done in "+strconv.Itoa(length+1))
		checkVm(t, "int 1; int 2; "+value+"; ret", "", "done in "+strconv.Itoa(length+3))
		checkVm(t, "fun @f; unit; call; ret; f: "+value+"; ret", "", "done in "+strconv.Itoa(length+5))
	}
	checkVm(t, "ret", "", "bad in 1")
	checkVm(t, "fun @f; unit; call; int 9; raise; f: ret", "", "bad in 4")
	checkVm(t, "int 9; fun @f; unit; call; raise; f: ret", "", "raised 9 in 6")
}

// TestVmTooFewValues has every instruction with all values that it requires,
// and with less.
func TestVmTooFewValues(t *testing.T) {
	for _, e := range []struct {
		ins    string
		values []string
		want   string
	}{
		{"con 1 A", []string{"int 1"}, "done"}, {"con 1 ::", []string{"unit"}, "done"}, {"pair", []string{"int 1", "int 2"}, "done"}, {"call", []string{"given print", "int 1"}, "1|done"}, {"call", []string{"fun 0", "int 1"}, "steps"},
		{"ret", []string{"int 1"}, "done"}, {"ifnot 0", []string{"con 0 true"}, "done"}, {"bind", []string{"int 1"}, "done"}, {"prim +", []string{"int 1", "int 2"}, "done"}, {"prim ^", []string{`str "a"`, `str "b"`}, "done"}, {"prim =", []string{"int 1", "int 1"}, "done"},
		{"raise", []string{"int 5"}, "raised 5"}, {"arm 0 0", []string{"int 5"}, "done"}, {"ref", []string{"int 1"}, "done"}, {"get", []string{"int 1; ref"}, "done"}, {"set", []string{"int 1; ref", "int 2"}, "done"}, {"pop", []string{"unit"}, "done"},
		{"int 1", nil, "done"}, {`str "a"`, nil, "done"}, {"unit", nil, "done"}, {"con 0 A", nil, "done"}, {"given read", nil, "done"}, {"fun 0", nil, "done"}, {"rec 0", nil, "done"}, {"drop 0", nil, "done"}, {"try 0", nil, "done"}, {"noarm", nil, "raised -1"},
	} {
		for left := range len(e.values) + 1 {
			text := strings.Join(append(slices.Clone(e.values[left:]), e.ins), "; ")
			if left > 0 {
				checkVm(t, text+"; unit; ret", "_", "bad in "+strconv.Itoa(vmLength(text)))
				continue
			}
			if got := briefOutcome(ran(t, codeOf(t, text+"; unit; ret", "_"), nil, 100, 100)); got != e.want {
				t.Errorf("%s: the outcome is %s, not %s", text, got, e.want)
			}
		}
	}
}

// TestVmOtherKinds has values that are not of the kind that an instruction
// requires.
func TestVmOtherKinds(t *testing.T) {
	check := func(want string, before string, values []string, ins string) {
		t.Helper()
		for _, value := range values {
			text := before + value + "; " + ins
			if want == "bad" {
				checkVm(t, text+"; unit; ret", "", "bad in "+strconv.Itoa(vmLength(text)))
			} else if o := ran(t, codeOf(t, text+"; unit; ret", ""), nil, 100, 100); o.Kind == impl.OutBad {
				t.Errorf("%s: the outcome is %s", text, outcomeText(o))
			}
		}
	}
	check("bad", "", vmOthers("bool"), "ifnot 0")
	check("good", "", vmSorts["bool"], "ifnot 0")
	check("bad", "", vmOthers("number"), "raise")
	check("good", "", vmSorts["number"], "raise")
	check("bad", "", vmOthers("unit"), "pop")
	check("good", "", vmSorts["unit"], "pop")
	check("bad", "", vmOthers("reference"), "get")
	check("good", "", vmSorts["reference"], "get")
	check("bad", "", vmOthers("reference"), "int 2; set")
	check("good", "", vmSorts["reference"], "int 2; set")
	check("good", "int 2; ref; ", vmOthers(), "set")
	check("bad", "int 2; ", vmOthers(), "set")
	check("bad", "", vmOthers("function", "given"), "int 2; call")
	check("bad", "", vmOthers("function", "given"), "unit; call")
	for _, ins := range []string{"con 1 A", "con 1 ::", "bind", "ref", "arm 0 0", "int 3; pair", "try 0"} {
		for _, value := range vmOthers() {
			checkVm(t, value+"; "+ins+"; unit; ret", "_", "done in "+strconv.Itoa(vmLength(value)+vmLength(ins)+2))
		}
	}
}

// TestVmGivenArguments calls the predefined functions with values of every
// kind.
func TestVmGivenArguments(t *testing.T) {
	right := map[string]string{"print": "number", "say": "string", "size": "string", "read": "unit"}
	for _, name := range []string{"print", "say", "read", "size"} {
		for _, kind := range vmKinds {
			for _, value := range vmSorts[kind] {
				text := "given " + name + "; " + value + "; call"
				o := ran(t, codeOf(t, text+"; ret", ""), []int{5}, 100, 100)
				if want := map[bool]int{true: impl.OutDone, false: impl.OutBad}[right[name] == kind]; o.Kind != want {
					t.Errorf("%s: the outcome is %s", text, outcomeText(o))
				}
				// What is bad is bad whether there are inputs or not.
				if o := ran(t, codeOf(t, text+"; ret", ""), nil, 100, 100); o.Kind == impl.OutBad && right[name] == kind || o.Kind != impl.OutBad && right[name] != kind {
					t.Errorf("%s: the outcome is %s without inputs", text, outcomeText(o))
				}
			}
		}
	}
	checkVm(t, "given print; given size; str \"abc\"; call; call; ret", "", "3|done in 6")
	checkVm(t, "given print; given read; unit; call; call; ret", "", "7|done in 6", 7, 8)
	checkVm(t, "given read; unit; call; raise", "", "raised -3 in 3")
	checkVm(t, "given read; unit; call; raise", "", "raised -4611686018427387904 in 4", impl.MaxInt+1)
	checkVm(t, "given read; unit; call; given read; unit; call; prim -; raise", "", "raised 2 in 8", 7, 5)
	checkVm(t, "given read; unit; call; given read; unit; call; ret", "", "raised -3 in 6", 7)
	checkVm(t, "given print; int 1; call; pop; given say; str \"a\"; call; ret", "", "1|a|done in 8")
}

// TestVmOperands has every operation with values of every kind.
func TestVmOperands(t *testing.T) {
	for _, sign := range []string{"=", "<>", "<", "<=", "+", "-", "*", "/", "%", "^"} {
		right := "number"
		if sign == "^" {
			right = "string"
		}
		for _, a := range vmOthers() {
			for _, b := range vmOthers() {
				text := a + "; " + b + "; prim " + sign
				o := ran(t, codeOf(t, text+"; ret", ""), nil, 100, 100)
				isRight := slices.Contains(vmSorts[right], a) && slices.Contains(vmSorts[right], b)
				if (o.Kind == impl.OutBad) == isRight || o.Kind == impl.OutBad && o.Steps != vmLength(text) {
					t.Errorf("%s: the outcome is %s", text, outcomeText(o))
				}
			}
		}
	}
}

// TestVmOperations: the first operand is the one that was pushed first.
func TestVmOperations(t *testing.T) {
	for sign, want := range map[string]string{"+": "9", "-": "5", "*": "14", "/": "3", "%": "1"} {
		checkVm(t, "int 7; int 2; prim "+sign+"; raise", "", "raised "+want+" in 4")
	}
	for _, e := range [][3]int{{2, 7, 0}, {7, 2, 0}, {7, 7, 0}} {
		for sign, holds := range map[string]bool{"=": e[0] == e[1], "<>": e[0] != e[1], "<": e[0] < e[1], "<=": e[0] <= e[1]} {
			want := map[bool]string{true: "raised 1 in 6", false: "raised 2 in 6"}[holds]
			text := "int " + strconv.Itoa(e[0]) + "; int " + strconv.Itoa(e[1]) + "; prim " + sign
			checkVm(t, text+"; ifnot @no; int 1; raise; no: int 2; raise", "", want)
			checkVm(t, text+"; arm 0 @no; int 1; raise; no: int 2; raise", "true", want)
		}
	}
	checkVm(t, `given say; str "ab"; str "cd"; prim ^; call; ret`, "", "abcd|done in 6")
	checkVm(t, "int 4611686018427387903; int 1; prim +; raise", "", "raised -4611686018427387904 in 4")
	checkVm(t, "int -4611686018427387904; int -1; prim /; raise", "", "raised -4611686018427387904 in 4")
	checkVm(t, "int 4611686018427387903; int 2; prim *; raise", "", "raised -2 in 4")
	checkVm(t, "int -7; int 2; prim /; raise", "", "raised -3 in 4")
	checkVm(t, "int -7; int 2; prim %; raise", "", "raised -1 in 4")
	checkVm(t, "int 7; int 0; prim /; raise", "", "raised -2 in 3")
	checkVm(t, "int 0; int 0; prim %; raise", "", "raised -2 in 3")
}

// TestVmLongStrings: concatenation is limited to MaxStr bytes, an OpStr is not.
func TestVmLongStrings(t *testing.T) {
	for _, lengths := range [][2]int{{0, 0}, {500, 500}, {1000, 0}, {0, 1000}, {999, 1}, {999, 2}, {1000, 1}, {1, 1000}, {501, 500}, {1001, 0}, {0, 1001}, {4000, 4000}} {
		ins := []impl.Ins{{Op: impl.OpGiven, S: "say"}}
		for i, length := range lengths {
			ins = append(ins, impl.Ins{Op: impl.OpStr, S: strings.Repeat(string(rune('a'+i)), length)})
		}
		ins = append(ins, impl.Ins{Op: impl.OpPrim, S: "^"}, impl.Ins{Op: impl.OpCall}, impl.Ins{Op: impl.OpRet})
		o := ran(t, impl.Code{Ins: ins}, nil, 100, 0)
		want := "raised -4 in 4"
		if lengths[0]+lengths[1] <= impl.MaxStr {
			want = strings.Repeat("a", lengths[0]) + strings.Repeat("b", lengths[1]) + "|done in 6"
		}
		if got := outcomeText(o); got != want {
			t.Errorf("the outcome is %s for %v", brief(got), lengths)
		}
	}
}

// TestVmArms has patterns of every kind with values of every kind.
func TestVmArms(t *testing.T) {
	for _, pattern := range []string{"_", "x", "7", "0", "-5", "()", "true", "false", "[]", "A", "True", "A 1", "A x", "A (A x)", "True true", "x :: y", "1 :: 2", "x :: []", "(x, y)", "(1, 2)", "(1, x)", "(x, 1)", "((), ())", "(true, false)", "((x, y), z)", "B x", "A ()"} {
		for _, value := range vmOthers() {
			length := vmLength(value)
			o := ran(t, codeOf(t, "int 3; "+value+"; arm 0 @no; raise; no: int 4; raise", pattern), nil, 100, 100)
			hit := o.N == 3
			if o.Kind != impl.OutRaised || o.Steps != length+map[bool]int{true: 3, false: 4}[hit] {
				t.Errorf("%s with %s: the outcome is %s", pattern, value, outcomeText(o))
			}
			if hit != vmHits(t, pattern, value) {
				t.Errorf("%s with %s: hit is %v", pattern, value, hit)
			}
		}
	}
	// The value stays if the pattern does not match.
	checkVm(t, "int 3; arm 0 @a; ret; a: arm 1 @b; ret; b: arm 2 @c; ret; c: raise", "1 | 2 | ()", "raised 3 in 5")
	checkVm(t, "int 3; arm 0 @a; ret; a: arm 1 @b; given print; var 0; call; b: ret", "1 | x", "3|done in 7")
	checkVm(t, "no: int 3; arm 0 @no; ret", "2", "steps in 1000")
}

// vmHits reports whether a pattern matches a value, by the values that Hit knows.
func vmHits(t *testing.T, pattern string, value string) bool {
	t.Helper()
	known := map[string]string{
		"int 7": "7", "int 0": "0", "int -5": "-5", "unit": "()", "con 0 true": "true", "con 0 false": "false", "con 0 A": "A", "con 0 []": "[]", "con 0 True": "True",
		"int 1; con 1 A": "A 1", "int 1; int 2; pair; con 1 ::": "1 :: 2", "con 0 true; con 1 True": "True true", "int 1; int 2; pair": "(1, 2)", "unit; unit; pair": "((), ())", "con 0 true; con 0 false; pair": "(true, false)",
	}
	if known[value] == "" {
		return pattern == "_" || pattern == "x"
	}
	_, hit := hitBy(t, patOf(t, pattern), dataOf(t, known[value]))
	return hit
}

// TestVmArmNames: the names are bound in the order of the pattern's nodes, the
// last one innermost.
func TestVmArmNames(t *testing.T) {
	prints := "given print; var 0; call; pop; given print; var 1; call; pop; given print; var 2; call; ret"
	checkVm(t, "int 1; int 2; int 3; pair; pair; arm 0 @no; "+prints+"; no: noarm", "(a, (b, c))", "3|2|1|done in 18")
	checkVm(t, "int 1; int 2; pair; int 3; pair; arm 0 @no; "+prints+"; no: noarm", "((a, b), c)", "3|2|1|done in 18")
	checkVm(t, "int 1; int 2; int 3; pair; pair; arm 0 @no; "+prints+"; no: noarm", "(c, (b, a))", "3|2|1|done in 18")
	checkVm(t, "int 1; bind; int 2; con 1 A; int 3; pair; con 1 ::; arm 0 @no; "+prints+"; no: noarm", "A x :: y", "3|2|1|done in 20")
	checkVm(t, "int 1; bind; int 2; int 3; pair; arm 0 @no; given print; var 0; call; pop; given print; var 1; call; pop; var 2; ret; no: noarm", "(_, y)", "3|1|bad in 15")
	// A pattern that does not match binds nothing.
	checkVm(t, "int 1; int 2; pair; arm 0 @no; ret; no: var 0; ret", "(x, 3)", "bad in 5")
}
