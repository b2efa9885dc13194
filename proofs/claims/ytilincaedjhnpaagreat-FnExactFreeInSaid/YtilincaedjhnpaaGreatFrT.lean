/- FreeIn and Weight, the model's; Weight, the program's. -/
import Derived.Test.YtilincaedjhnpaaGreatFrS
import Derived.Test.YtilincaedjhnpaaGreatOkX
import Derived.Test.YtilincaedjhnpaaGreatOkZ3
namespace Go.Proofs.YtilincaedjhnpaaGreat
set_option linter.unusedVariables false
set_option maxRecDepth 100000
open Go.ChangeShapes Go.WideShapes Go.ChangeAt Go.RowKit

set_option maxHeartbeats 4000000 in
theorem sFreeInC (p : Pg) (a : Int) (nm : ByteArray) (v0 v1 : Value) (w : World) (h0 : RowRd 3 TpEl w v0 p.types) (h1 : RowRd 6 NdEl w v1 p.nodes) (hz : bPg p ≤ 1048576) (ia : (Lit.int .i64 a).wf = true) (is : nm.size ≤ maxLen) :
    Calls Tryz.prog 6 #[.agg #[v0, v1], .int .i64 a, .string nm] w fun e w' => e = .returned (.bool (freeInB p a nm)) ∧ Below w.heap.size w w' := by
  have h00 := h0
  have h10 := h1
  obtain ⟨pt, ct, rfl, hmt, -⟩ := h0.form
  obtain ⟨pn, cn, rfl, hmn, -⟩ := h1.form
  unfold maxLen at hmt hmn
  have hP := fun W (hK : Kept w W) => sProgramOk p _ _ W (h00.kept TpEl.st hK) (h10.kept NdEl.st hK)
  cases hok : pgOkB p
  · rw [hok] at hP
    have HB := Lib.hid (show freeInB p a nm = false from by simp [freeInB, hok])
    clear hok h0 h1 h00 h10
    go_enter Tryz.func6, Tryz.ntmps6
    go_wp2_with fail
    refine (hP _ (Kept.alloc _ _)).mono ?_
    rintro e w1 ⟨rfl, hb1⟩
    have hw := below_tr (Joins.below_alloc1 w _) hb1
    clear hP
    go_wp2
    go_ret
    exact ⟨ret_bool HB.out.symm, hw⟩
  · rw [hok] at hP
    have HO := Lib.hid (free_ok hok)
    by_cases ha : a < 0
    · have HB := Lib.hid (show freeInB p a nm = false from by rw [freeInB, hok, decide_eq_false (by omega : ¬ 0 ≤ a)]; rfl)
      clear hok h0 h1 h00 h10
      go_enter Tryz.func6, Tryz.ntmps6
      go_wp2_with fail
      refine (hP _ (Kept.alloc _ _)).mono ?_
      rintro e w1 ⟨rfl, hb1⟩
      have hw := below_tr (Joins.below_alloc1 w _) hb1
      clear hP
      go_wp2
      go_ret
      exact ⟨ret_bool HB.out.symm, hw⟩
    · by_cases hl : (p.nodes.length : Int) ≤ a
      · have HB := Lib.hid (show freeInB p a nm = false from by rw [freeInB, hok, decide_eq_false (by omega : ¬ a < (p.nodes.length : Int))]; simp)
        clear hok h0 h1 h00 h10
        go_enter Tryz.func6, Tryz.ntmps6
        go_wp2_with fail
        refine (hP _ (Kept.alloc _ _)).mono ?_
        rintro e w1 ⟨rfl, hb1⟩
        have hw := below_tr (Joins.below_alloc1 w _) hb1
        have c1 : w1.cell? ⟨w.heap.size, 1, none⟩ = some (.slice pn p.nodes.length cn) := by rw [hb1.cell (p := ⟨w.heap.size, 1, none⟩) (by simp)]; simp
        clear hP
        go_wp2
        go_ret
        exact ⟨ret_bool HB.out.symm, hw⟩
      · obtain ⟨k, rfl⟩ : ∃ k : Nat, a = k := ⟨a.toNat, by omega⟩
        have HB := Lib.hid (show freeInB p k nm = freeN p.nodes nm k from by rw [freeInB, hok, decide_eq_true (by omega : (0 : Int) ≤ k), decide_eq_true (by omega : (k : Int) < (p.nodes.length : Int))]; simp)
        have hkl : k < p.nodes.length := by omega
        have hF := fun W (hK : Kept w W) => sFree (p.nodes.length + 1) p.nodes _ _ k nm W HO.out ⟨pt, p.types.length, ct, rfl⟩ (h10.kept NdEl.st hK) hkl (by omega)
        clear hok h0 h1 h00 h10 HO
        go_enter Tryz.func6, Tryz.ntmps6
        go_wp2_with fail
        refine (hP _ (Kept.alloc _ _)).mono ?_
        rintro e w1 ⟨rfl, hb1⟩
        have hw := below_tr (Joins.below_alloc1 w _) hb1
        have c0 : w1.cell? ⟨w.heap.size, 0, none⟩ = some (.slice pt p.types.length ct) := by rw [hb1.cell (p := ⟨w.heap.size, 0, none⟩) (by simp)]; simp
        have c1 : w1.cell? ⟨w.heap.size, 1, none⟩ = some (.slice pn p.nodes.length cn) := by rw [hb1.cell (p := ⟨w.heap.size, 1, none⟩) (by simp)]; simp
        clear hP
        go_wp2_with fail
        refine (hF _ (Kept.of_below hw)).mono ?_
        rintro e w2 ⟨rfl, hb2⟩
        have hw2 := below_tr hw hb2
        clear hF
        go_wp2
        go_ret
        exact ⟨ret_bool HB.out.symm, hw2⟩
theorem ret_int {k : IntKind} {a b : Int} (h : a = b) : Ending.returned (.int k a) = .returned (.int k b) := by rw [h]
set_option maxHeartbeats 4000000 in
theorem sWeightC (p : Pg) (v0 v1 : Value) (w : World) (h0 : RowRd 3 TpEl w v0 p.types) (h1 : RowRd 6 NdEl w v1 p.nodes) (hz : bPg p ≤ 1048576) :
    Calls Tryz.prog 10 #[.agg #[v0, v1]] w fun e w' => e = .returned (.int .i64 (weightV p)) ∧ Below w.heap.size w w' := by
  have h00 := h0
  have h10 := h1
  obtain ⟨pt, ct, rfl, hmt, -⟩ := h0.form
  obtain ⟨pn, cn, rfl, hmn, -⟩ := h1.form
  unfold maxLen at hmt hmn
  have hP := fun W (hK : Kept w W) => sProgramOk p _ _ W (h00.kept TpEl.st hK) (h10.kept NdEl.st hK)
  cases hok : pgOkB p
  · rw [hok] at hP
    have HB := Lib.hid (show weightV p = -1 from by simp [weightV, hok])
    clear hok h0 h1 h00 h10
    go_enter Tryz.func10, Tryz.ntmps10
    go_wp2_with fail
    refine (hP _ (Kept.alloc _ _)).mono ?_
    rintro e w1 ⟨rfl, hb1⟩
    have hw := below_tr (Joins.below_alloc1 w _) hb1
    clear hP
    go_wp2
    go_ret
    exact ⟨ret_int HB.out.symm, hw⟩
  · rw [hok] at hP
    have HB := Lib.hid (show weightV p = (p.nodes.length : Int) from by simp [weightV, hok])
    clear hok h0 h1 h00 h10
    go_enter Tryz.func10, Tryz.ntmps10
    go_wp2_with fail
    refine (hP _ (Kept.alloc _ _)).mono ?_
    rintro e w1 ⟨rfl, hb1⟩
    have hw := below_tr (Joins.below_alloc1 w _) hb1
    have c1 : w1.cell? ⟨w.heap.size, 1, none⟩ = some (.slice pn p.nodes.length cn) := by rw [hb1.cell (p := ⟨w.heap.size, 1, none⟩) (by simp)]; simp
    clear hP
    go_wp2
    go_ret
    exact ⟨ret_int HB.out.symm, hw⟩
set_option maxHeartbeats 4000000 in
theorem iWeightC (p : Pg) (v0 v1 : Value) (w : World) (h0 : RowRd 3 TpEl w v0 p.types) (h1 : RowRd 6 NdEl w v1 p.nodes) (hz : bPg p ≤ 1048576) :
    Calls Tryz.prog 11 #[.agg #[v0, v1]] w fun e w' => e = .returned (.int .i64 (weightV p)) ∧ Below w.heap.size w w' := by
  have h00 := h0
  have h10 := h1
  obtain ⟨pt, ct, rfl, hmt, -⟩ := h0.form
  obtain ⟨pn, cn, rfl, hmn, -⟩ := h1.form
  unfold maxLen at hmt hmn
  have hP := fun W (hK : Kept w W) => iProgramOk p _ _ W (h00.kept TpEl.st hK) (h10.kept NdEl.st hK)
  cases hok : pgOkB p
  · rw [hok] at hP
    have HB := Lib.hid (show weightV p = -1 from by simp [weightV, hok])
    clear hok h0 h1 h00 h10
    go_enter Tryz.func11, Tryz.ntmps11
    go_wp2_with fail
    refine (hP _ (Kept.alloc _ _)).mono ?_
    rintro e w1 ⟨rfl, hb1⟩
    have hw := below_tr (Joins.below_alloc1 w _) hb1
    clear hP
    go_wp2
    go_ret
    exact ⟨ret_int HB.out.symm, hw⟩
  · rw [hok] at hP
    have HB := Lib.hid (show weightV p = (p.nodes.length : Int) from by simp [weightV, hok])
    clear hok h0 h1 h00 h10
    go_enter Tryz.func11, Tryz.ntmps11
    go_wp2_with fail
    refine (hP _ (Kept.alloc _ _)).mono ?_
    rintro e w1 ⟨rfl, hb1⟩
    have hw := below_tr (Joins.below_alloc1 w _) hb1
    have c1 : w1.cell? ⟨w.heap.size, 1, none⟩ = some (.slice pn p.nodes.length cn) := by rw [hb1.cell (p := ⟨w.heap.size, 1, none⟩) (by simp)]; simp
    clear hP
    go_wp2
    go_ret
    exact ⟨ret_int HB.out.symm, hw⟩
end Go.Proofs.YtilincaedjhnpaaGreat
