package tests

import (
	"strings"
	"testing"

	"loop.example/g00395/impl"
)

// checkLine checks the line of an instruction, which has the address 1 in code
// of five.
func checkLine(t *testing.T, want string, i impl.Ins) {
	t.Helper()
	text := impl.CodeText(codeWith(t, i))
	if text != "0 ret\n1 "+want+"\n2 ret\n3 ret\n4 ret\n" {
		t.Errorf("CodeText is %q, not %q, for %+v", text, want, i)
	}
}

func TestCodeTextOfEveryOp(t *testing.T) {
	checkLine(t, "int 7", impl.Ins{Op: impl.OpInt, A: 7})
	checkLine(t, "str \"a\"", impl.Ins{Op: impl.OpStr, S: "a"})
	checkLine(t, "unit", impl.Ins{Op: impl.OpUnit})
	checkLine(t, "con 0 A", impl.Ins{Op: impl.OpCon, S: "A"})
	checkLine(t, "con 1 A", impl.Ins{Op: impl.OpCon, A: 1, S: "A"})
	checkLine(t, "con 0 true", impl.Ins{Op: impl.OpCon, S: "true"})
	checkLine(t, "con 0 []", impl.Ins{Op: impl.OpCon, S: "[]"})
	checkLine(t, "con 1 ::", impl.Ins{Op: impl.OpCon, A: 1, S: "::"})
	checkLine(t, "pair", impl.Ins{Op: impl.OpPair})
	checkLine(t, "var 0", impl.Ins{Op: impl.OpVar})
	checkLine(t, "var 3000", impl.Ins{Op: impl.OpVar, A: 3000})
	checkLine(t, "given print", impl.Ins{Op: impl.OpGiven, S: "print"})
	checkLine(t, "given size", impl.Ins{Op: impl.OpGiven, S: "size"})
	checkLine(t, "fun 2", impl.Ins{Op: impl.OpFun, A: 2})
	checkLine(t, "rec 0", impl.Ins{Op: impl.OpRec})
	checkLine(t, "call", impl.Ins{Op: impl.OpCall})
	checkLine(t, "ret", impl.Ins{Op: impl.OpRet})
	checkLine(t, "jump 4", impl.Ins{Op: impl.OpJump, A: 4})
	checkLine(t, "ifnot 3", impl.Ins{Op: impl.OpIfNot, A: 3})
	checkLine(t, "bind", impl.Ins{Op: impl.OpBind})
	checkLine(t, "drop 0", impl.Ins{Op: impl.OpDrop})
	checkLine(t, "drop 12", impl.Ins{Op: impl.OpDrop, A: 12})
	checkLine(t, "raise", impl.Ins{Op: impl.OpRaise})
	checkLine(t, "try 4", impl.Ins{Op: impl.OpTry, A: 4})
	checkLine(t, "ok", impl.Ins{Op: impl.OpOk})
	checkLine(t, "arm 3 2", impl.Ins{Op: impl.OpArm, A: 3, B: 2})
	checkLine(t, "arm 0 0", impl.Ins{Op: impl.OpArm})
	checkLine(t, "noarm", impl.Ins{Op: impl.OpNoArm})
	checkLine(t, "ref", impl.Ins{Op: impl.OpRef})
	checkLine(t, "get", impl.Ins{Op: impl.OpGet})
	checkLine(t, "set", impl.Ins{Op: impl.OpSet})
	checkLine(t, "pop", impl.Ins{Op: impl.OpPop})
	for _, sign := range []string{"=", "<>", "<", "<=", "+", "-", "*", "/", "%", "^"} {
		checkLine(t, "prim "+sign, impl.Ins{Op: impl.OpPrim, S: sign})
	}
}

// TestOpNumbers: the Ops have the numbers of the specification.
func TestOpNumbers(t *testing.T) {
	for i, op := range []int{
		impl.OpInt, impl.OpStr, impl.OpUnit, impl.OpCon, impl.OpPair, impl.OpVar, impl.OpGiven, impl.OpFun, impl.OpRec, impl.OpCall, impl.OpRet, impl.OpJump, impl.OpIfNot,
		impl.OpBind, impl.OpDrop, impl.OpPrim, impl.OpRaise, impl.OpTry, impl.OpOk, impl.OpArm, impl.OpNoArm, impl.OpRef, impl.OpGet, impl.OpSet, impl.OpPop,
	} {
		if op != i+1 {
			t.Errorf("the Op %s has the number %d", opWords[i], op)
		}
	}
	if impl.MaxCode != 3000 {
		t.Errorf("MaxCode is %d", impl.MaxCode)
	}
}

func TestCodeTextOfNumbers(t *testing.T) {
	checkLine(t, "int 0", impl.Ins{Op: impl.OpInt})
	checkLine(t, "int -1", impl.Ins{Op: impl.OpInt, A: -1})
	checkLine(t, "int -4611686018427387904", impl.Ins{Op: impl.OpInt, A: impl.MinInt})
	checkLine(t, "int 4611686018427387903", impl.Ins{Op: impl.OpInt, A: impl.MaxInt})
}

func TestCodeTextOfTexts(t *testing.T) {
	for _, e := range [][2]string{
		{"", `""`}, {"a b", `"a b"`}, {"\n", `"\n"`}, {"\"\\", `"\"\\"`}, {"\x00\x1f\x7f\xff", `"\x00\x1f\x7f\xff"`}, {"é", `"\xc3\xa9"`}, {"print", `"print"`}, {"x\n1 ret", `"x\n1 ret"`},
		{strings.Repeat("a", impl.MaxText+1), `"` + strings.Repeat("a", impl.MaxText+1) + `"`},
	} {
		checkLine(t, "str "+e[1], impl.Ins{Op: impl.OpStr, S: e[0]})
	}
}

// TestCodeTextOfManyLines: the indices are those of the instructions.
func TestCodeTextOfManyLines(t *testing.T) {
	for _, count := range []int{1, 9, 10, 11, 100, 101, impl.MaxCode} {
		c, want := impl.Code{}, ""
		for at := range count {
			c.Ins = append(c.Ins, impl.Ins{Op: impl.OpJump, A: count - 1 - at})
			want += impl.NumText(at) + " jump " + impl.NumText(count-1-at) + "\n"
		}
		if got := impl.CodeText(c); got != want {
			t.Errorf("CodeText of %d instructions is %s", count, brief(got))
		}
	}
}

// TestCodeTextOfInvalidCode: it is empty, whatever else the code has.
func TestCodeTextOfInvalidCode(t *testing.T) {
	ret := impl.Ins{Op: impl.OpRet}
	for _, c := range []impl.Code{
		{}, {Ins: []impl.Ins{}}, {Pats: somePats(t)}, {Ins: []impl.Ins{ret, {}}}, {Ins: []impl.Ins{ret, {Op: 26}}}, {Ins: []impl.Ins{{Op: -1}, ret}}, {Ins: []impl.Ins{ret, {Op: impl.OpRet, S: "x"}}}, {Ins: []impl.Ins{{Op: impl.OpJump, A: 2}, ret}},
		{Ins: []impl.Ins{{Op: impl.OpArm}, ret}}, {Ins: []impl.Ins{ret}, Pats: []impl.Pat{{}}}, {Ins: []impl.Ins{{Op: impl.OpInt, A: impl.MaxInt + 1}, ret}}, {Ins: []impl.Ins{{Op: impl.OpVar, A: impl.MaxCode + 1}, ret}}, {Ins: make([]impl.Ins, impl.MaxCode+1)},
	} {
		if text := impl.CodeText(c); text != "" || impl.CodeOk(c) {
			t.Errorf("CodeText is %q for %s", text, codeText(c))
		}
	}
}
