package tests

import (
	"strconv"
	"strings"
	"testing"

	"loop.example/g00395/impl"
)

// TestVmRaiseWithoutHandler: what is raised ends the run, whatever frames and
// values there are.
func TestVmRaiseWithoutHandler(t *testing.T) {
	checkVm(t, "int 5; raise", "", "raised 5 in 2")
	checkVm(t, "int 1; int 5; raise; ret", "", "raised 5 in 3")
	checkVm(t, "noarm", "", "raised -1 in 1")
	checkVm(t, "int 1; noarm; ret", "", "raised -1 in 2")
	checkVm(t, "fun @f; unit; call; ret; f: int 5; raise", "", "raised 5 in 5")
	checkVm(t, "given print; int 1; call; int 5; raise", "", "1|raised 5 in 5")
	// A handler that was removed no longer counts.
	checkVm(t, "try 0; ok; int 5; raise", "", "raised 5 in 4")
	checkVm(t, "try @h; int 5; raise; h: int 6; raise", "", "raised 6 in 5")
}

// TestVmHandlers: the handler has the number and its own bindings, values and
// frames, whatever raises.
func TestVmHandlers(t *testing.T) {
	for _, e := range []struct {
		ins   string
		n     int
		steps int
	}{
		{"int 5; raise", 5, 2}, {"int -5; raise", -5, 2}, {"noarm", -1, 1}, {"int 1; int 0; prim /", -2, 3}, {"int 1; int 0; prim %", -2, 3}, {"given read; unit; call", -3, 3},
		{"unit; arm 0 @no; no: noarm", -1, 3}, {"fun @f; unit; call; f: int 5; raise", 5, 5}, {"rec @f; var 0; unit; call; f: int 5; raise", 5, 6}, {"int 1; bind; int 2; int 3; bind; int 5; raise", 5, 7}, {"int 1; int 2; int 5; raise", 5, 4},
		{"fun @f; unit; call; f: int 1; bind; fun @g; unit; call; g: int 2; int 5; raise", 5, 11},
	} {
		want := strconv.Itoa(e.n)
		// The value and the binding below the handler are left.
		text := "int 8; bind; int 7; try @h; " + e.ins + "; h: given print; var 0; call; pop; given print; var 1; call; pop; raise"
		checkVm(t, text, "1", want+"|8|raised 7 in "+strconv.Itoa(4+e.steps+9))
		text = "try @h; " + e.ins + "; h: var 1; ret"
		checkVm(t, text, "1", "bad in "+strconv.Itoa(1+e.steps+1))
		text = "try @h; " + e.ins + "; h: ret"
		checkVm(t, text, "1", "bad in "+strconv.Itoa(1+e.steps+1))
		// The handler is removed.
		text = "try @h; " + e.ins + "; h: int 6; raise"
		checkVm(t, text, "1", "raised 6 in "+strconv.Itoa(1+e.steps+2))
		// In a function, the frames below the handler are left.
		text = "int 7; fun @t; unit; call; pop; raise; t: try @h; " + e.ins + "; h: unit; ret"
		checkVm(t, text, "1", "raised 7 in "+strconv.Itoa(5+e.steps+4))
		// The last handler is the first one that handles.
		text = "try @o; try @h; " + e.ins + "; o: var 0; int 100; prim *; raise; h: var 0; int 10; prim +; raise"
		checkVm(t, text, "1", "raised "+strings.TrimSuffix(strconv.Itoa((e.n+10)*100), " 0")+" in "+strconv.Itoa(2+e.steps+4+4))
	}
	checkVm(t, `try @h; str "`+strings.Repeat("a", 600)+`"; str "`+strings.Repeat("b", 401)+`"; prim ^; ret; h: var 0; raise`, "", "raised -4 in 6")
}

// TestVmHandlersOfOneAddress: handlers may be at any address, also at one that
// has been executed.
func TestVmHandlersOfOneAddress(t *testing.T) {
	checkVm(t, "h: try @h; int 5; raise", "", "steps in 1000")
	checkVm(t, "int 5; bind; h: var 0; int 1; prim -; bind; var 0; ifnot 0; ret", "", "bad in 8")
	checkVm(t, "int 3; bind; h: given print; var 0; call; pop; try @h; int 9; raise", "", "3|"+strings.Repeat("9|", 142)+"steps in 1000")
	checkVm(t, "try @h; try @h; try @h; int 1; raise; h: var 0; int 1; prim +; raise", "", "raised 4 in 17")
}

// TestVmLostValues: a handler whose values or frames are no longer there is
// bad.
func TestVmLostValues(t *testing.T) {
	checkVm(t, "int 1; try @h; raise; h: unit; ret", "", "bad in 3")
	checkVm(t, "unit; try @h; pop; int 5; raise; h: unit; ret", "", "bad in 5")
	checkVm(t, "unit; try @h; pop; int 4; int 5; raise; h: unit; ret", "", "done in 8")
	checkVm(t, "unit; unit; try @h; pop; pop; int 4; int 5; raise; h: unit; ret", "", "bad in 8")
	checkVm(t, "unit; try @h; pop; noarm; h: unit; ret", "", "bad in 4")
	checkVm(t, "int 1; int 0; try @h; prim /; h: unit; ret", "", "bad in 4")
	checkVm(t, "int 0; int 1; int 0; try @h; prim /; h: unit; ret", "", "bad in 5")
	checkVm(t, "given read; unit; try @h; call; h: unit; ret", "", "bad in 4")
	checkVm(t, "given read; try @h; unit; call; h: unit; ret", "", "bad in 4")
	checkVm(t, "try @h; given read; unit; call; h: unit; ret", "", "done in 6")
	// A value that was replaced is not that of the handler, but it is there.
	checkVm(t, "int 3; try @h; bind; int 4; int 5; raise; h: raise", "", "raised 4 in 7")
	// Without the handler, the values are not missed.
	checkVm(t, "int 1; try @h; raise; h: unit; ret", "", "bad in 3")
	checkVm(t, "int 1; try @h; ok; raise; h: unit; ret", "", "raised 1 in 4")
	// The frame of the handler has returned.
	checkVm(t, "fun @f; unit; call; int 5; raise; f: try @h; unit; ret; h: unit; ret", "", "bad in 8")
	checkVm(t, "fun @f; unit; call; fun @g; unit; call; ret; f: try @h; unit; ret; g: int 5; raise; h: unit; ret", "", "done in 14")
	checkVm(t, "fun @f; unit; call; pop; fun @g; unit; call; ret; f: try @h; unit; ret; g: int 5; raise; h: unit; ret", "", "done in 15")
	// Both the values and the frames have to be there, and an inner handler
	// does not help.
	checkVm(t, "unit; fun @f; unit; call; pop; pop; int 5; raise; f: try @h; unit; ret; h: unit; ret", "", "bad in 11")
	checkVm(t, "try @o; unit; try @h; pop; int 5; raise; o: unit; ret; h: unit; ret", "", "bad in 6")
}

// TestVmOk: OpOk removes a handler of this frame only.
func TestVmOk(t *testing.T) {
	checkVm(t, "ok", "", "bad in 1")
	checkVm(t, "unit; ok; ret", "", "bad in 2")
	checkVm(t, "try 0; ok; unit; ret", "", "done in 4")
	checkVm(t, "try 0; ok; ok; unit; ret", "", "bad in 3")
	checkVm(t, "try 0; try 0; ok; ok; unit; ret", "", "done in 6")
	checkVm(t, "try @h; int 1; raise; h: ok; unit; ret", "", "bad in 4")
	// It asks for the number of frames, not for that of values or bindings.
	checkVm(t, "unit; try 0; pop; ok; unit; ret", "", "done in 6")
	checkVm(t, "try 0; unit; unit; ok; ret", "", "done in 5")
	checkVm(t, "try 0; unit; bind; ok; unit; ret", "", "done in 6")
	checkVm(t, "int 1; bind; try 0; drop 1; ok; unit; ret", "", "done in 7")
	// In another frame.
	checkVm(t, "try 0; fun @f; unit; call; ret; f: ok; unit; ret", "", "bad in 5")
	checkVm(t, "fun @f; unit; call; ok; ret; f: try 0; unit; ret", "", "bad in 7")
	checkVm(t, "fun @f; unit; call; ret; f: try 0; ok; unit; ret", "", "done in 8")
	checkVm(t, "fun @f; unit; call; ret; f: fun @g; unit; call; ok; ret; g: try 0; unit; ret", "", "bad in 10")
	// In another frame, but with as many of them.
	checkVm(t, "fun @f; unit; call; fun @g; unit; call; ret; f: try 0; unit; ret; g: ok; unit; ret", "", "done in 13")
	// The innermost handler counts.
	checkVm(t, "try 0; fun @f; unit; call; ok; ret; f: try 0; ok; unit; ret", "", "done in 10")
	checkVm(t, "try @h; try @i; ok; int 5; raise; i: int 1; raise; h: int 2; raise", "", "raised 2 in 7")
}

// TestVmBehind: an address behind the code is bad, however it is reached.
func TestVmBehind(t *testing.T) {
	// The next address, after every instruction that may have one.
	for _, e := range []struct{ before, ins string }{
		{"", "int 1"}, {"", `str "a"`}, {"", "unit"}, {"", "con 0 A"}, {"unit; ", "con 1 A"}, {"unit; unit; ", "pair"}, {"unit; bind; ", "var 0"}, {"", "given print"}, {"", "fun 0"}, {"", "rec 0"}, {"given print; int 1; ", "call"},
		{"con 0 true; ", "ifnot 0"}, {"unit; ", "bind"}, {"", "drop 0"}, {"int 1; int 2; ", "prim +"}, {"", "try 0"}, {"try 0; ", "ok"}, {"unit; ", "arm 0 0"}, {"unit; ", "ref"}, {"unit; ref; ", "get"}, {"unit; ref; unit; ", "set"}, {"unit; ", "pop"},
	} {
		text := e.before + e.ins
		want := "bad in " + strconv.Itoa(vmLength(text))
		if e.ins == "call" {
			want = "1|" + want
		}
		checkVm(t, text, "_", want)
		// There, the limit of steps does not count.
		for most := range vmLength(text) + 3 {
			o := ran(t, codeOf(t, text, "_"), nil, most, 100)
			if wantKind := map[bool]int{true: impl.OutBad, false: impl.OutSteps}[most >= vmLength(text)]; o.Kind != wantKind || o.Steps != min(most, vmLength(text)) {
				t.Errorf("%s: the outcome is %s with at most %d steps", text, outcomeText(o), most)
			}
		}
	}
	// The address to which OpRet returns.
	checkVm(t, "jump @m; f: unit; ret; m: fun @f; unit; call", "", "bad in 6")
	checkVm(t, "jump @m; f: unit; ret; m: rec @f; var 0; unit; call", "", "bad in 7")
	checkVmIn(t, "jump @m; f: unit; ret; m: fun @f; unit; call", "", 6, 100, "bad in 6")
	checkVmIn(t, "jump @m; f: unit; ret; m: fun @f; unit; call", "", 5, 100, "steps in 5")
	// The end of a function at the end of the code.
	checkVm(t, "fun @f; unit; call; ret; f: unit", "", "bad in 4")
	// The next address of a handler, and of the last place of all.
	checkVm(t, "try @h; int 1; raise; h: unit", "", "bad in 4")
	checkVm(t, "try @h; noarm; h: drop 0", "", "bad in 3")
	checkVm(t, "jump @e; e: unit", "", "bad in 2")
	checkVm(t, "con 0 false; ifnot @e; e: unit", "", "bad in 3")
	checkVm(t, "unit; arm 0 @e; e: unit", "1", "bad in 3")
	// An OpRet, OpJump or OpRaise that is the last instruction does not reach it.
	checkVm(t, "unit; ret", "", "done in 2")
	checkVm(t, "jump 0", "", "steps in 1000")
	checkVm(t, "con 0 false; ifnot 0", "", "steps in 1000")
	checkVm(t, "int 1; raise", "", "raised 1 in 2")
}

// TestVmOddAddresses: functions, handlers and jumps may lead into any part of
// the code.
func TestVmOddAddresses(t *testing.T) {
	checkVm(t, "fun 1; unit; call; ret", "", "bad in 5")
	checkVm(t, "fun 0; unit; call; ret", "", "steps in 1000")
	checkVm(t, "fun @f; unit; f: call; ret", "", "bad in 4")
	checkVm(t, "fun @f; unit; call; f: unit; ret", "", "done in 7")
	checkVm(t, "int 9; fun @r; unit; call; r: raise", "", "raised 9 in 5")
	checkVm(t, "try @h; unit; h: pop; ret", "", "bad in 4")
	checkVm(t, "int 1; jump @m; int 2; m: raise", "", "raised 1 in 3")
	checkVm(t, "jump @b; a: int 2; raise; b: jump @a", "", "raised 2 in 4")
}

// TestVmChecksInOrder has several reasons to end at once.
func TestVmChecksInOrder(t *testing.T) {
	print1 := "given print; int 1; call; pop; "
	check := func(text string, pats string, most int, size int, want string) {
		t.Helper()
		checkVmIn(t, text, pats, most, size, want)
		taken := vmLength(print1) - 1
		verdict, steps, _ := strings.Cut(want, " in ")
		n, _ := strconv.Atoi(steps)
		checkVmIn(t, print1+text, pats, max(most, 0)+taken, size, "1|"+verdict+" in "+strconv.Itoa(n+taken))
	}
	// The limit of steps is ahead of the instruction, whatever it would do.
	for _, ins := range []string{"int 1", "con 1 A", "pair", "var 0", "fun 0", "rec 0", "call", "ret", "jump 0", "ifnot 0", "bind", "drop 1", "prim +", "raise", "try 0", "ok", "arm 0 0", "noarm", "ref", "get", "set", "pop", "given say", "unit"} {
		check(ins, "_", 0, 0, "steps in 0")
		check(ins, "_", -1, 0, "steps in 0")
	}
	// An address behind the code is ahead of the limit.
	check("unit", "", 1, 0, "bad in 1")
	check("drop 0", "", 1, 0, "bad in 1")
	// What is bad is ahead of the space.
	for _, text := range []string{"con 1 A", "pair", "bind", "ref", "call", "arm 0 0"} {
		check(text, "x", 9, 0, "bad in 1")
	}
	check("unit; pair", "", 9, 0, "bad in 2")
	check("unit; call", "", 9, 0, "bad in 2")
	check("int 1; unit; call", "", 9, 0, "bad in 3")
	check("given print; unit; call", "", 9, 0, "bad in 3")
	check("int 1; try 0; raise", "", 9, 0, "bad in 3")
	check("unit; try 0; pop; noarm", "", 9, 0, "bad in 4")
	check("int 1; int 0; try 0; prim /", "", 9, 0, "bad in 4")
	check("given read; unit; try 0; call", "", 9, 0, "bad in 4")
	check("try 0; noarm", "", 9, 0, "heap in 2")
	// The space is ahead of the next address, and so of what is bad there.
	for _, text := range []string{"fun 0", "rec 0"} {
		check(text, "", 9, 0, "heap in 1")
		check(text, "", 1, 0, "heap in 1")
	}
	for _, text := range []string{"unit; con 1 A", "unit; bind", "unit; ref", "unit; arm 0 0", "unit; arm 0 1"} {
		check(text, "x", 9, 0, "heap in 2")
		check(text+"; pop", "x", 9, 0, "heap in 2")
		check(text, "x", 2, 0, "heap in 2")
	}
	check("unit; unit; pair", "", 9, 0, "heap in 3")
	check("rec 0", "", 9, 1, "heap in 1")
	check("rec 0", "", 9, 2, "bad in 1")
	check("rec 0; var 0; unit; call", "", 4, 2, "heap in 4")
	check("unit; arm 0 0", "_", 9, 0, "bad in 2")
	check("unit; arm 0 0", "()", 9, 0, "bad in 2")
	check("int 1; int 2; pair; arm 0 0", "(x, y)", 9, 1, "heap in 4")
	check("int 1; int 2; pair; arm 0 0", "(x, y)", 9, 2, "bad in 4")
	// The end of the run is ahead of everything behind it.
	checkVmIn(t, "unit; ret", "", 2, 0, "done in 2")
	checkVmIn(t, "int 5; raise", "", 2, 0, "raised 5 in 2")
	checkVmIn(t, "noarm", "", 1, 0, "raised -1 in 1")
	// There is only one number at an end that was not raised.
	for _, text := range []string{"int 5; try 0; fun 0; fun 0; raise", "int 5; ret", "int 5; pop", "h: try @h; int 5; raise", "try 0; int 5; raise"} {
		if o := ran(t, codeOf(t, text, ""), nil, 50, 1); o.N != 0 || o.Kind == impl.OutRaised {
			t.Errorf("%s: the outcome is %s", text, outcomeText(o))
		}
	}
}
