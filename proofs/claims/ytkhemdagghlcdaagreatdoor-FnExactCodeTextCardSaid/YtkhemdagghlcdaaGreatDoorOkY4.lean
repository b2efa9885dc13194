/- The program's check of patterns: the whole. -/
import Derived.Test.YtkhemdagghlcdaaGreatDoorOkY3
namespace Go.Proofs.YtkhemdagghlcdaaGreatDoor
set_option linter.unusedVariables false
set_option maxRecDepth 100000
open Go.ChangeShapes Go.WideShapes Go.ChangeAt Go.RowKit

theorem iPatOk (q : List PN) (v : Value) (w : World) (hR : RowRd 4 PNEl w v q) :
    Calls Tryz.prog 39 #[.agg #[v]] w fun e w' => e = .returned (.bool (patOkB q)) ∧ Below w.heap.size w w' := by
  have HP := Lib.hid (pat_ok q)
  have hR0 := hR
  obtain ⟨p, cap, rfl, hm, hRf⟩ := hR.form
  clear hRf
  unfold maxLen at hm
  obtain ⟨O, hO⟩ : ∃ O, O = Obj.cells #[.slice p q.length cap] 59 := ⟨_, rfl⟩
  have kO : Kept w (w.alloc O) := Kept.alloc _ _
  have z0 : w.heap.size < (w.alloc O).heap.size := by simp
  have c0 : (w.alloc O).cell? ⟨w.heap.size, 0, none⟩ = some (.slice p q.length cap) := by rw [hO]; simp
  have bO : Below w.heap.size w (w.alloc O) := Joins.below_alloc1 w O
  have hRO := hR0.kept PNEl.st kO
  have HPre := fun W (hK : Below (w.alloc O).heap.size (w.alloc O) W) => Lib.hid (iPrePN q _ W (hRO.kept PNEl.st (Kept.of_below hK)))
  have HTw := fun W (hK : Below (w.alloc O).heap.size (w.alloc O) W) => Lib.hid (iTwice q _ W (hRO.kept PNEl.st (Kept.of_below hK)))
  cases hp : preB (q.map PN.kids)
  · rw [hp] at HP HPre
    have HF := Lib.hid (show patOkB q = false from HP.out)
    clear HP HTw hR hR0 hRO
    go_enter Tryz.func39, Tryz.ntmps39
    go_wp2_with fail
    rw [← hO]
    clear hO
    generalize w.alloc O = wb at *
    refine (HPre _ (Below.refl _ _)).out.mono ?_
    rintro e w1 ⟨rfl, hb1⟩
    go_wp2
    go_ret
    exact ⟨ret_bool HF.out.symm, below_tr bO hb1⟩
  · have hkids := pat_kids q hp
    have HEv := fun W (hK : Below (w.alloc O).heap.size (w.alloc O) W) => Lib.hid (iEveryPN 63 #[.pointer (some ⟨w.heap.size, 0, none⟩)] e_iRightPN (rightPB q) q _ W (hRO.kept PNEl.st (Kept.of_below hK))
      (fun i hi u W' hW' hu => iRightPN q _ w.heap.size q[i] u W' ((hW'.cell (p := ⟨w.heap.size, 0, none⟩) (Nat.lt_of_lt_of_le z0 hK.size)).trans ((hK.cell (p := ⟨w.heap.size, 0, none⟩) z0).trans c0)) (Nat.lt_of_lt_of_le z0 (Nat.le_trans hK.size hW'.size)) (hRO.kept PNEl.st ((Kept.of_below hK).trans (Kept.of_below hW'))) hu (hkids _ (List.getElem_mem hi))))
    rw [hp] at HP HPre
    clear hkids hR hR0 hRO
    cases he : q.all (rightPB q)
    · rw [he] at HP HEv
      have HF := Lib.hid (show patOkB q = false from HP.out)
      clear HP HTw
      go_enter Tryz.func39, Tryz.ntmps39
      go_wp2_with fail
      rw [← hO]
      clear hO
      generalize w.alloc O = wb at *
      refine (HPre _ (Below.refl _ _)).out.mono ?_
      rintro e w1 ⟨rfl, hb1⟩
      have c1 := (hb1.cell (p := ⟨w.heap.size, 0, none⟩) z0).trans c0
      go_wp2_with fail
      refine (HEv _ hb1).out.mono ?_
      rintro e w2 ⟨rfl, hb2⟩
      go_wp2
      go_ret
      exact ⟨ret_bool HF.out.symm, below_tr (below_tr bO hb1) hb2⟩
    · rw [he] at HP HEv
      have HF := Lib.hid (show patOkB q = !propB (TwiceP q) from HP.out)
      clear HP
      generalize propB (TwiceP q) = tw at *
      go_enter Tryz.func39, Tryz.ntmps39
      go_wp2_with fail
      rw [← hO]
      clear hO
      generalize w.alloc O = wb at *
      refine (HPre _ (Below.refl _ _)).out.mono ?_
      rintro e w1 ⟨rfl, hb1⟩
      have c1 := (hb1.cell (p := ⟨w.heap.size, 0, none⟩) z0).trans c0
      go_wp2_with fail
      refine (HEv _ hb1).out.mono ?_
      rintro e w2 ⟨rfl, hb2⟩
      have hB2 := below_tr hb1 hb2
      have c2 := (hB2.cell (p := ⟨w.heap.size, 0, none⟩) z0).trans c0
      go_wp2_with fail
      refine (HTw _ hB2).out.mono ?_
      rintro e w3 ⟨rfl, hb3⟩
      go_wp2
      go_ret
      exact ⟨ret_bool HF.out.symm, below_tr (below_tr bO hB2) hb3⟩
theorem iPatOkC (q : List PN) (v : Value) (w : World) (hR : RowRd 4 PNEl w v q) (hz : bPat q ≤ 1048576) :
    Calls Tryz.prog 39 #[.agg #[v]] w fun e w' => e = .returned (.bool (patOkB q)) ∧ Below w.heap.size w w' := iPatOk q v w hR
theorem e_iPatOk : ∀ args w, (callFunc 39 args).run Tryz.prog w = .ok (.enter 39 args) w := enters_of Tryz.func39 (by kernel_rfl) rfl
end Go.Proofs.YtkhemdagghlcdaaGreatDoor
