/- The program's check of values, whole. -/
import Derived.Test.YtkalkmgnjlohnaaDoI
namespace Go.Proofs.Ytkalkmgnjlohnaa
set_option linter.unusedVariables false
set_option maxRecDepth 100000
open Go.ChangeShapes Go.WideShapes Go.ChangeAt Go.RowKit

set_option maxHeartbeats 4000000 in
theorem iDataOk (l : List DN) (v : Value) (w : World) (hR : RowRd 4 DNEl w v l) (hl : l.length ≤ 1048576) :
    Calls Try.prog 9 #[.agg #[v]] w fun e w' => e = .returned (.bool (dOkB l)) ∧ Below w.heap.size w w' := by
  have hR0 := hR
  obtain ⟨p, cap, rfl, hm, hRf⟩ := hR.form
  clear hRf
  unfold maxLen at hm
  have HP := Lib.hid (show dOkB l = (preB ((l.map toPN).map PN.kids) && (l.map toPN).all (rightDB (l.map toPN))) from by rw [kids_toPN]; rfl)
  have hM := Lib.hid (iMapDP l _ (w.alloc (.cells #[.slice p l.length cap] 29)) (hR0.kept DNEl.st (Kept.alloc _ _)) hl)
  clear hR hR0
  generalize l.map toPN = q at *
  go_enter Try.func9, Try.ntmps9
  go_wp2_with (go_at_call 28; refine hM.out.mono ?_; rintro e w1 ⟨v', rfl, hv', hb⟩; have hvf := hv'.form; obtain ⟨pv, cv, rfl, mv, -⟩ := hvf)
  clear hM
  have B0 : Below w.heap.size w w1 := below_tr (Joins.below_alloc1 w _) hb
  clear hb
  obtain ⟨O, hO⟩ : ∃ O, O = Obj.cells #[.slice pv q.length cv] 40 := ⟨_, rfl⟩
  have kO : Kept w1 (w1.alloc O) := Kept.alloc _ _
  have z0 : w1.heap.size < (w1.alloc O).heap.size := by simp
  have c0 : (w1.alloc O).cell? ⟨w1.heap.size, 0, none⟩ = some (.slice pv q.length cv) := by rw [hO]; simp
  have bO : Below w.heap.size w (w1.alloc O) := below_tr B0 (Joins.below_alloc1 w1 O)
  have hRO := hv'.kept PNEl.st kO
  have HPre := fun W (hK : Below (w1.alloc O).heap.size (w1.alloc O) W) => Lib.hid (iPrePN q _ W (hRO.kept PNEl.st (Kept.of_below hK)))
  have hin := pat_kids q
  have HEv := fun (hp : preB (q.map PN.kids) = true) W (hK : Below (w1.alloc O).heap.size (w1.alloc O) W) => Lib.hid (iEveryPN 30 #[.pointer (some ⟨w1.heap.size, 0, none⟩)] e_iRightDN (rightDB q) q _ W (hRO.kept PNEl.st (Kept.of_below hK))
      (fun i hi u W' hW' hu => iRightDN q _ w1.heap.size q[i] u W' ((hW'.cell (p := ⟨w1.heap.size, 0, none⟩) (Nat.lt_of_lt_of_le z0 hK.size)).trans ((hK.cell (p := ⟨w1.heap.size, 0, none⟩) z0).trans c0)) (Nat.lt_of_lt_of_le z0 (Nat.le_trans hK.size hW'.size)) (hRO.kept PNEl.st ((Kept.of_below hK).trans (Kept.of_below hW'))) hu (hin hp _ (List.getElem_mem hi))))
  rw [← hO]
  clear hO hin hv' kO hRO B0
  generalize w1.alloc O = wb at *
  cases hp : preB (q.map PN.kids)
  · rw [hp] at HP HPre
    have HF := Lib.hid (show dOkB l = false from HP.out)
    clear HP HEv
    refine (HPre _ (Below.refl _ _)).out.mono ?_
    rintro e w2 ⟨rfl, hb1⟩
    go_wp2
    go_ret
    exact ⟨ret_bool HF.out.symm, below_tr bO hb1⟩
  · have HEv := HEv hp
    rw [hp] at HP HPre
    have HF := Lib.hid (show dOkB l = q.all (rightDB q) from by rw [HP.out, Bool.true_and])
    clear HP
    generalize q.all (rightDB q) = r at *
    refine (HPre _ (Below.refl _ _)).out.mono ?_
    rintro e w2 ⟨rfl, hb1⟩
    have c1 := (hb1.cell (p := ⟨w1.heap.size, 0, none⟩) z0).trans c0
    go_wp2_with fail
    refine (HEv _ hb1).out.mono ?_
    rintro e w3 ⟨rfl, hb2⟩
    go_wp2
    go_ret
    exact ⟨ret_bool HF.out.symm, below_tr (below_tr bO hb1) hb2⟩
theorem iDataOkC (l : List DN) (v : Value) (w : World) (hR : RowRd 4 DNEl w v l) (hz : bData l ≤ 1048576) :
    Calls Try.prog 9 #[.agg #[v]] w fun e w' => e = .returned (.bool (dOkB l)) ∧ Below w.heap.size w w' := iDataOk l v w hR (Nat.le_trans (bulkL_len _ _) hz)
end Go.Proofs.Ytkalkmgnjlohnaa
