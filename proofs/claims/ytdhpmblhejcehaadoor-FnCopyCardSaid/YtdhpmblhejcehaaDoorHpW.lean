
/- What the model gathers from its marks: Reach, Sweep. -/
import Derived.Test.YtdhpmblhejcehaaDoorHpV
import Derived.Test.YtdhpmblhejcehaaDoorOwnRow
import Derived.Test.YtdhpmblhejcehaaDoorOwnData
import Derived.Maps.AppendAt
namespace Go.Proofs.YtdhpmblhejcehaaDoor
set_option linter.unusedVariables false
set_option maxRecDepth 100000
open Go.ChangeShapes Go.WideShapes Go.ChangeAt Go.RowKit

theorem info_int1 : (Tryd.prog.info? 3).map (fun i => (i.zero, i.size, i.bytes)) = some (some (.int .i64 0), 1, 8) := by kernel_rfl
theorem hp_ints {B e m : Nat} {w1 : World} {v' : Value} {l l' : List Int} {n : Nat} {xs news : List Value} (hn : n = l.length) (hxs : xs = ic l) (hnews : news = ic l') (hm : m = l'.length) (hown' : w1.ownsRow B e 1 v' (n + m) (xs ++ news)) :
    w1.ownsRow B e 1 v' (l ++ l').length (ic (l ++ l')) := by
  subst hn hxs hnews hm; rw [ic_app, List.length_append]; exact hown'
/-- A row of numbers that a call made, handed back. -/
theorem hp_row {B : Nat} {w w' : World} {v : Value} {l : List Int} (h : w'.ownsRow B 3 1 v l.length (ic l)) (hI : ∀ x ∈ l, I64 x) (hB : w.heap.size ≤ B) (hb : Below w.heap.size w w') : RowPost 1 (Flat IntEl) l w (.returned v) w' := by
  obtain ⟨F, hF, hlo, hnd⟩ := own_ints h hI
  exact ⟨v, F, rfl, hF, fun g hg => Nat.le_trans hB (hlo g hg), hnd, hb⟩
end Go.Proofs.YtdhpmblhejcehaaDoor
