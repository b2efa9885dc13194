/- Plain mathematics of valid code. -/
import Derived.Test.YtkhemdagghlcdaaGreatDoorOkMath
import Derived.Test.YtkhemdagghlcdaaGreatDoorNumMath
namespace Go.Proofs.YtkhemdagghlcdaaGreatDoor
set_option linter.unusedVariables false
open Go.RowKit

/-- A predefined function's name: print, say, read, size. -/
def givenB (s : ByteArray) : Bool := s.toList == [112, 114, 105, 110, 116] || (s.toList == [115, 97, 121] || (s.toList == [114, 101, 97, 100] || s.toList == [115, 105, 122, 101]))
/-- What A may be. -/
def insA (n m op a : Int) : Bool :=
  if op = 1 then decide (W a = a)
  else if op = 4 then decide (a = 0) || decide (a = 1)
  else if op = 6 ∨ op = 15 then decide (0 ≤ a) && decide (a ≤ 3000)
  else if op = 8 ∨ (op = 9 ∨ (op = 12 ∨ (op = 13 ∨ op = 18))) then decide (0 ≤ a) && decide (a < n)
  else if op = 20 then decide (0 ≤ a) && decide (a < m)
  else decide (a = 0)
/-- What B may be. -/
def insBB (n op b : Int) : Bool := if op = 20 then decide (0 ≤ b) && decide (b < n) else decide (b = 0)
/-- What S may be. -/
def insS (op a : Int) (s : ByteArray) : Bool :=
  if op = 2 then true else if op = 4 then conOkB s a true else if op = 7 then givenB s else if op = 16 then primB s else decide (s.toList = [])
/-- An instruction by itself, in code of n instructions and m patterns. -/
def insB (n m : Int) (x : Ins_) : Bool := decide (1 ≤ x.op) && (decide (x.op ≤ 25) && (insA n m x.op x.a && (insBB n x.op x.b && insS x.op x.a x.s)))
/-- Valid code. -/
noncomputable def codeOkB (c : Cd) : Bool :=
  decide (1 ≤ c.ins.length) && (decide (c.ins.length ≤ 3000) && (c.ins.all (insB c.ins.length c.pats.length) && c.pats.all patOkB))
end Go.Proofs.YtkhemdagghlcdaaGreatDoor
