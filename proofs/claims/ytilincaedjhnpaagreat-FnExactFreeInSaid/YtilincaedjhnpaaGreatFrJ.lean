/- FreeIn, the program's. -/
import Derived.Test.YtilincaedjhnpaaGreatFrI
import Derived.Test.YtilincaedjhnpaaGreatFrT
namespace Go.Proofs.YtilincaedjhnpaaGreat
set_option linter.unusedVariables false
set_option maxRecDepth 100000
open Go.ChangeShapes Go.WideShapes Go.ChangeAt Go.RowKit

noncomputable def hasNodeB (p : Pg) (a : Int) : Bool := pgOkB p && (decide (0 ≤ a) && decide (a < (p.nodes.length : Int)))
set_option maxHeartbeats 4000000 in
theorem iHasNode (p : Pg) (a : Int) (v0 v1 : Value) (w : World) (h0 : RowRd 3 TpEl w v0 p.types) (h1 : RowRd 6 NdEl w v1 p.nodes) :
    Calls Tryz.prog 18 #[.agg #[v0, v1], .int .i64 a] w fun e w' => e = .returned (.bool (hasNodeB p a)) ∧ Below w.heap.size w w' := by
  have h00 := h0
  have h10 := h1
  obtain ⟨pt, ct, rfl, hmt, -⟩ := h0.form
  obtain ⟨pn, cn, rfl, hmn, -⟩ := h1.form
  unfold maxLen at hmt hmn
  have hP := fun W (hK : Kept w W) => iProgramOk p _ _ W (h00.kept TpEl.st hK) (h10.kept NdEl.st hK)
  cases hok : pgOkB p
  · rw [hok] at hP
    have HB := Lib.hid (show hasNodeB p a = false from by simp [hasNodeB, hok])
    clear hok h0 h1 h00 h10
    go_enter Tryz.func18, Tryz.ntmps18
    go_wp2_with fail
    refine (hP _ (Kept.alloc _ _)).mono ?_
    rintro e w1 ⟨rfl, hb1⟩
    have hw := below_tr (Joins.below_alloc1 w _) hb1
    clear hP
    go_wp2
    go_ret
    exact ⟨ret_bool HB.out.symm, hw⟩
  · rw [hok] at hP
    by_cases ha : 0 ≤ a
    · have HB := Lib.hid (show hasNodeB p a = decide (a < (p.nodes.length : Int)) from by rw [hasNodeB, hok, decide_eq_true ha]; rfl)
      clear hok h0 h1 h00 h10
      go_enter Tryz.func18, Tryz.ntmps18
      go_wp2_with fail
      refine (hP _ (Kept.alloc _ _)).mono ?_
      rintro e w1 ⟨rfl, hb1⟩
      have hw := below_tr (Joins.below_alloc1 w _) hb1
      have c1 : w1.cell? ⟨w.heap.size, 1, none⟩ = some (.slice pn p.nodes.length cn) := by rw [hb1.cell (p := ⟨w.heap.size, 1, none⟩) (by simp)]; simp
      clear hP
      go_wp2
      go_ret
      exact ⟨ret_bool HB.out.symm, hw⟩
    · have HB := Lib.hid (show hasNodeB p a = false from by rw [hasNodeB, hok, decide_eq_false ha]; rfl)
      clear hok h0 h1 h00 h10
      go_enter Tryz.func18, Tryz.ntmps18
      go_wp2_with fail
      refine (hP _ (Kept.alloc _ _)).mono ?_
      rintro e w1 ⟨rfl, hb1⟩
      have hw := below_tr (Joins.below_alloc1 w _) hb1
      clear hP
      go_wp2
      go_ret
      exact ⟨ret_bool HB.out.symm, hw⟩
set_option maxHeartbeats 4000000 in
theorem iFreeInC (p : Pg) (a : Int) (nm : ByteArray) (v0 v1 : Value) (w : World) (h0 : RowRd 3 TpEl w v0 p.types) (h1 : RowRd 6 NdEl w v1 p.nodes) (hz : bPg p ≤ 1048576) (ia : (Lit.int .i64 a).wf = true) (is : nm.size ≤ maxLen) :
    Calls Tryz.prog 8 #[.agg #[v0, v1], .int .i64 a, .string nm] w fun e w' => e = .returned (.bool (freeInB p a nm)) ∧ Below w.heap.size w w' := by
  have h00 := h0
  have h10 := h1
  obtain ⟨pt, ct, rfl, hmt, -⟩ := h0.form
  obtain ⟨pn, cn, rfl, hmn, -⟩ := h1.form
  unfold maxLen at hmt hmn
  have hP := fun W (hK : Kept w W) => iHasNode p a _ _ W (h00.kept TpEl.st hK) (h10.kept NdEl.st hK)
  cases hok : hasNodeB p a
  · rw [hok] at hP
    have HB := Lib.hid (show freeInB p a nm = false from by
      have : freeInB p a nm = (hasNodeB p a && freeN p.nodes nm a.toNat) := by simp [freeInB, hasNodeB, Bool.and_assoc]
      rw [this, hok]; rfl)
    clear hok h0 h1 h00 h10
    go_enter Tryz.func8, Tryz.ntmps8
    go_wp2_with fail
    refine (hP _ (Kept.alloc _ _)).mono ?_
    rintro e w1 ⟨rfl, hb1⟩
    have hw := below_tr (Joins.below_alloc1 w _) hb1
    clear hP
    go_wp2
    go_ret
    exact ⟨ret_bool HB.out.symm, hw⟩
  · rw [hok] at hP
    have hq := hok
    simp only [hasNodeB, Bool.and_eq_true, decide_eq_true_eq] at hq
    obtain ⟨hok1, ha0, hal⟩ := hq
    have HO := Lib.hid (free_ok hok1)
    obtain ⟨k, rfl⟩ : ∃ k : Nat, a = k := ⟨a.toNat, by omega⟩
    have HB := Lib.hid (show freeInB p k nm = freeN p.nodes nm k from by rw [freeInB, hok1, decide_eq_true ha0, decide_eq_true hal]; simp)
    have hkl : k < p.nodes.length := by omega
    have hF := fun W (hK : Kept w W) => iIsFree (p.nodes.length + 1) p.nodes _ k nm W HO.out (h10.kept NdEl.st hK) hkl (by omega)
    clear hok h0 h1 h00 h10 HO hok1
    go_enter Tryz.func8, Tryz.ntmps8
    go_wp2_with fail
    refine (hP _ (Kept.alloc _ _)).mono ?_
    rintro e w1 ⟨rfl, hb1⟩
    have hw := below_tr (Joins.below_alloc1 w _) hb1
    have c1 : w1.cell? ⟨w.heap.size, 1, none⟩ = some (.slice pn p.nodes.length cn) := by rw [hb1.cell (p := ⟨w.heap.size, 1, none⟩) (by simp)]; simp
    clear hP
    go_wp2_with fail
    refine (hF _ (Kept.of_below hw)).mono ?_
    rintro e w2 ⟨rfl, hb2⟩
    have hw2 := below_tr hw hb2
    clear hF
    go_wp2
    go_ret
    exact ⟨ret_bool HB.out.symm, hw2⟩
end Go.Proofs.YtilincaedjhnpaaGreat
