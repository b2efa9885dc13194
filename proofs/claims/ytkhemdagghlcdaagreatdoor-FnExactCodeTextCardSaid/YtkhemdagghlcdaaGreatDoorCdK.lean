/- The program's check of code: the whole. -/
import Derived.Test.YtkhemdagghlcdaaGreatDoorCdJ
namespace Go.Proofs.YtkhemdagghlcdaaGreatDoor
set_option linter.unusedVariables false
set_option maxRecDepth 100000
open Go.ChangeShapes Go.WideShapes Go.ChangeAt Go.RowKit

set_option maxHeartbeats 1000000 in
theorem iCodeOk (c : Cd) (v0 v1 : Value) (w : World) (h0 : RowRd 4 InsEl w v0 c.ins) (h1 : RowRd 1 PatEl w v1 c.pats) :
    Calls Tryz.prog 17 #[.agg #[v0, v1]] w fun e w' => e = .returned (.bool (codeOkB c)) ∧ Below w.heap.size w w' := by
  obtain ⟨ins, pats⟩ := c
  simp only at h0 h1
  have h00 := h0
  have h10 := h1
  obtain ⟨a0, c0, rfl, hm0, -⟩ := h0.form
  obtain ⟨a1, c1, rfl, hm1, -⟩ := h1.form
  unfold maxLen at hm0 hm1
  clear h0 h1
  by_cases hA : ins.length = 0
  · have HB := Lib.hid (show codeOkB ⟨ins, pats⟩ = false from by simp [codeOkB, hA])
    have hl : decide (1 ≤ (ins.length : Int)) = false := by simp; omega
    have hl2 : (ins.length : Int) = 0 := by omega
    clear h00 h10 hA
    go_enter Tryz.func17, Tryz.ntmps17
    go_wp2
    go_ret
    exact ⟨ret_bool HB.out.symm, Joins.below_alloc1 w _⟩
  by_cases hC : 3000 < ins.length
  · have HB := Lib.hid (show codeOkB ⟨ins, pats⟩ = false from by simp [codeOkB]; omega)
    have hl : decide (1 ≤ (ins.length : Int)) = true := by simp; omega
    have hl2 : decide ((ins.length : Int) ≤ 3000) = false := by simp; omega
    clear h00 h10
    go_enter Tryz.func17, Tryz.ntmps17
    go_wp2
    go_ret
    exact ⟨ret_bool HB.out.symm, Joins.below_alloc1 w _⟩
  have HB := Lib.hid (show codeOkB ⟨ins, pats⟩ = (ins.all (insB ins.length pats.length) && pats.all patOkB) from by
    have e1 : decide (1 ≤ ins.length) = true := by simp; omega
    have e2 : decide (ins.length ≤ 3000) = true := by simp; omega
    simp only [codeOkB, e1, e2, Bool.true_and])
  have hl : decide (1 ≤ (ins.length : Int)) = true := by simp; omega
  have hl2 : decide ((ins.length : Int) ≤ 3000) = true := by simp; omega
  obtain ⟨O, hO⟩ : ∃ O, O = Obj.cells #[.slice a0 ins.length c0, .slice a1 pats.length c1] 31 := ⟨_, rfl⟩
  have bO : Below w.heap.size w (w.alloc O) := Joins.below_alloc1 w O
  have d0 : (w.alloc O).cell? ⟨w.heap.size, 0, none⟩ = some (.slice a0 ins.length c0) := by rw [hO]; simp
  have d1 : (w.alloc O).cell? ⟨w.heap.size, 1, none⟩ = some (.slice a1 pats.length c1) := by rw [hO]; simp
  have z : w.heap.size < (w.alloc O).heap.size := by simp
  have hEI := Lib.hid (iEveryIns 33 #[.pointer (some ⟨w.heap.size, 0, none⟩)] e_iRightIns (insB ins.length pats.length) ins _ (w.alloc O) (h00.kept InsEl.st (Kept.of_below bO))
    (fun i hi u W' hW' hu => iRightIns a0 a1 ins.length pats.length c0 c1 w.heap.size ins[i] u W' ((hW'.cell (p := ⟨w.heap.size, 0, none⟩) z).trans d0) ((hW'.cell (p := ⟨w.heap.size, 1, none⟩) z).trans d1) (Nat.lt_of_lt_of_le z hW'.size) hu))
  have hEP := fun W (hW : Below (w.alloc O).heap.size (w.alloc O) W) => Lib.hid (iEveryPat 39 #[] e_iPatOk patOkB pats _ W (h10.kept PatEl.st ((Kept.of_below bO).trans (Kept.of_below hW)))
    (fun i hi u W' hW' hu => by obtain ⟨v0, rfl, r0⟩ := hu; exact iPatOk pats[i] v0 W' r0))
  clear h00 h10
  generalize ins.all (insB ins.length pats.length) = A at *
  generalize pats.all patOkB = B at *
  go_enter Tryz.func17, Tryz.ntmps17
  go_wp2_with fail
  rw [← hO]
  clear hO
  generalize w.alloc O = W at *
  refine hEI.out.mono ?_
  rintro e w1 ⟨rfl, hb1⟩
  cases A
  · go_wp2
    go_ret
    exact ⟨ret_bool (by rw [HB.out]; simp), below_tr bO hb1⟩
  · have f0 := (hb1.cell (p := ⟨w.heap.size, 0, none⟩) z).trans d0
    have f1 := (hb1.cell (p := ⟨w.heap.size, 1, none⟩) z).trans d1
    have z1 := Nat.lt_of_lt_of_le z hb1.size
    go_wp2_with fail
    refine (hEP _ hb1).out.mono ?_
    rintro e w2 ⟨rfl, hb2⟩
    go_wp2
    go_ret
    exact ⟨ret_bool (by rw [HB.out, Bool.true_and]), below_tr (below_tr bO hb1) hb2⟩
theorem iCodeOkC (c : Cd) (v0 v1 : Value) (w : World) (h0 : RowRd 4 InsEl w v0 c.ins) (h1 : RowRd 1 PatEl w v1 c.pats) (hz : bCd c ≤ 1048576) :
    Calls Tryz.prog 17 #[.agg #[v0, v1]] w fun e w' => e = .returned (.bool (codeOkB c)) ∧ Below w.heap.size w w' := iCodeOk c v0 v1 w h0 h1
end Go.Proofs.YtkhemdagghlcdaaGreatDoor
