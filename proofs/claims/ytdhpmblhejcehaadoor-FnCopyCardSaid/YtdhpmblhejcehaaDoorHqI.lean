/- The program's check of heaps: the whole. -/
import Derived.Test.YtdhpmblhejcehaaDoorHqB
import Derived.Test.YtdhpmblhejcehaaDoorFnVl
import Derived.Test.YtdhpmblhejcehaaDoorFnCe
namespace Go.Proofs.YtdhpmblhejcehaaDoor
set_option linter.unusedVariables false
set_option maxRecDepth 100000
open Go.ChangeShapes Go.WideShapes Go.ChangeAt Go.RowKit

theorem e_iHpV : ∀ args w, (callFunc 24 args).run Tryd.prog w = .ok (.enter 24 args) w := enters_of Tryd.func24 (by kernel_rfl) rfl
theorem e_iHpC : ∀ args w, (callFunc 26 args).run Tryd.prog w = .ok (.enter 26 args) w := enters_of Tryd.func26 (by kernel_rfl) rfl
set_option maxHeartbeats 1000000 in
theorem iHpV (a0 : Option Addr) (n c0 bo : Nat) (x : Vl) (u : Value) (w : World) (hc0 : w.cell? ⟨bo, 0, none⟩ = some (.slice a0 n c0)) (hbo : bo < w.heap.size) (hu : VlVal w u x) :
    Calls Tryd.prog 24 #[u, .pointer (some ⟨bo, 0, none⟩)] w fun e w' => e = .returned (.bool (valB n x)) ∧ Below w.heap.size w w' := by
  obtain ⟨rfl, -, -, hs⟩ := hu
  have HV := fun W => Lib.hid (iVal n x W hs)
  have hne : w.heap.size ≠ bo := by omega
  go_enter Tryd.func24, Tryd.ntmps24
  go_wp2_with fail
  refine (HV _).out.mono ?_
  rintro e w1 ⟨rfl, hb1⟩
  go_wp2
  go_ret
  exact ⟨rfl, below_tr (Joins.below_alloc1 w _) hb1⟩
set_option maxHeartbeats 1000000 in
theorem iHpC (a0 : Option Addr) (n c0 bo : Nat) (x : Ce) (u : Value) (w : World) (hc0 : w.cell? ⟨bo, 0, none⟩ = some (.slice a0 n c0)) (hbo : bo < w.heap.size) (hu : CeVal w u x) :
    Calls Tryd.prog 26 #[u, .pointer (some ⟨bo, 0, none⟩)] w fun e w' => e = .returned (.bool (cellB n x)) ∧ Below w.heap.size w w' := by
  obtain ⟨rfl, -, -, hs, -, -, hsa, -, -, hsb⟩ := hu
  have HV := fun W => Lib.hid (iCell n x W hs hsa hsb)
  have hne : w.heap.size ≠ bo := by omega
  go_enter Tryd.func26, Tryd.ntmps26
  go_wp2_with fail
  refine (HV _).out.mono ?_
  rintro e w1 ⟨rfl, hb1⟩
  go_wp2
  go_ret
  exact ⟨rfl, below_tr (Joins.below_alloc1 w _) hb1⟩
set_option maxHeartbeats 1000000 in
theorem iHeapOk (h : List Ce) (r : List Vl) (v0 v1 : Value) (w : World) (h0 : RowRd 9 CeEl w v0 h) (h1 : RowRd 3 VlEl w v1 r) :
    Calls Tryd.prog 8 #[v0, v1] w fun e w' => e = .returned (.bool (heapB h r)) ∧ Below w.heap.size w w' := by
  have h00 := h0
  have h10 := h1
  obtain ⟨a0, c0, rfl, hm0, -⟩ := h0.form
  obtain ⟨a1, c1, rfl, hm1, -⟩ := h1.form
  unfold maxLen at hm0 hm1
  clear h0 h1
  by_cases hC : 4000 < h.length
  · have HB := Lib.hid (show heapB h r = false from by simp [heapB]; omega)
    have hl2 : decide ((h.length : Int) ≤ 4000) = false := by simp; omega
    clear h00 h10
    go_enter Tryd.func8, Tryd.ntmps8
    go_wp2
    go_ret
    exact ⟨ret_bool HB.out.symm, Joins.below_alloc1 w _⟩
  have HB := Lib.hid (show heapB h r = (h.all (cellB h.length) && r.all (valB h.length)) from by
    have e2 : decide (h.length ≤ 4000) = true := by simp; omega
    simp only [heapB, e2, Bool.true_and])
  have hl2 : decide ((h.length : Int) ≤ 4000) = true := by simp; omega
  obtain ⟨O, hO⟩ : ∃ O, O = Obj.cells #[.slice a0 h.length c0] 23 := ⟨_, rfl⟩
  have bO : Below w.heap.size w (w.alloc O) := Joins.below_alloc1 w O
  have d0 : (w.alloc O).cell? ⟨w.heap.size, 0, none⟩ = some (.slice a0 h.length c0) := by rw [hO]; simp
  have z : w.heap.size < (w.alloc O).heap.size := by simp
  have hEC := Lib.hid (iEveryCe 26 #[.pointer (some ⟨w.heap.size, 0, none⟩)] e_iHpC (cellB h.length) h _ (w.alloc O) (h00.kept CeEl.st (Kept.of_below bO))
    (fun i hi u W' hW' hu => iHpC a0 h.length c0 w.heap.size h[i] u W' ((hW'.cell (p := ⟨w.heap.size, 0, none⟩) z).trans d0) (Nat.lt_of_lt_of_le z hW'.size) hu))
  have hEV := fun W (hW : Below (w.alloc O).heap.size (w.alloc O) W) => Lib.hid (iEveryVl 24 #[.pointer (some ⟨w.heap.size, 0, none⟩)] e_iHpV (valB h.length) r _ W (h10.kept VlEl.st ((Kept.of_below bO).trans (Kept.of_below hW)))
    (fun i hi u W' hW' hu => iHpV a0 h.length c0 w.heap.size r[i] u W' (((below_tr hW hW').cell (p := ⟨w.heap.size, 0, none⟩) z).trans d0) (Nat.lt_of_lt_of_le (Nat.lt_of_lt_of_le z hW.size) hW'.size) hu))
  clear h00 h10
  generalize h.all (cellB h.length) = A at *
  generalize r.all (valB h.length) = B at *
  go_enter Tryd.func8, Tryd.ntmps8
  go_wp2_with fail
  rw [← hO]
  clear hO
  generalize w.alloc O = W at *
  refine hEC.out.mono ?_
  rintro e w1 ⟨rfl, hb1⟩
  cases A
  · go_wp2
    go_ret
    exact ⟨ret_bool (by rw [HB.out]; simp), below_tr bO hb1⟩
  · have f0 := (hb1.cell (p := ⟨w.heap.size, 0, none⟩) z).trans d0
    have z1 := Nat.lt_of_lt_of_le z hb1.size
    go_wp2_with fail
    refine (hEV _ hb1).out.mono ?_
    rintro e w2 ⟨rfl, hb2⟩
    go_wp2
    go_ret
    exact ⟨ret_bool (by rw [HB.out, Bool.true_and]), below_tr (below_tr bO hb1) hb2⟩
theorem iHeapOkC (h : List Ce) (r : List Vl) (v0 v1 : Value) (w : World) (h0 : RowRd 9 CeEl w v0 h) (h1 : RowRd 3 VlEl w v1 r) (hz0 : bulkL bCe h ≤ 1048576) (hz1 : bulkL bVl r ≤ 1048576) :
    Calls Tryd.prog 8 #[v0, v1] w fun e w' => e = .returned (.bool (heapB h r)) ∧ Below w.heap.size w w' := iHeapOk h r v0 v1 w h0 h1
end Go.Proofs.YtdhpmblhejcehaaDoor
