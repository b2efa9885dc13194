/- The program's check of types: the visitor, the walk, the whole. -/
import Derived.Test.YtilincaedjhnpaaGreatOkW2
namespace Go.Proofs.YtilincaedjhnpaaGreat
set_option linter.unusedVariables false
set_option maxRecDepth 100000
open Go.ChangeShapes Go.WideShapes Go.ChangeAt Go.RowKit

theorem iRightTy (l : List TyI) (vt : Value) (bt a d : Nat) (n : Int) (w : World) (hc : w.cell? ⟨bt, 0, none⟩ = some vt) (hR : RowRd 3 TyIEl w vt l) (ha : a < l.length) (hd : d ≤ 9223372036854775807) :
    Calls Tryz.prog 123 #[.int .i64 a, .int .i64 d, .int .i64 n, .pointer (some ⟨bt, 0, none⟩)] w fun e w' => e = .returned (.bool (vTy l () a d n).1) ∧ Below w.heap.size w w' := by
  obtain ⟨p, cap, rfl, hm, hR⟩ := hR.form
  unfold maxLen at hm
  by_cases h0 : d = 0
  · subst h0
    have HB := Lib.hid (show (vTy l () a 0 n).1 = itemB l[a] from by simp [vTy, List.getElem?_eq_getElem ha])
    obtain ⟨b, o, rfl, hbw, hcs⟩ := hR (by omega)
    obtain ⟨⟨e0, i0⟩, ⟨e1, i1⟩, ⟨e2, i2⟩⟩ := hcs a ha
    clear hcs hR
    generalize l[a] = x at *
    have hI := iItem x w i1
    go_enter Tryz.func123, Tryz.ntmps123
    go_wp2_with (go_at_call 124; refine hI.mono ?_; rintro e w1 ⟨rfl, hb⟩)
    go_ret
    exact ⟨ret_bool HB.out.symm, hb⟩
  · have HB := Lib.hid (show (vTy l () a d n).1 = true from by simp [vTy]; left; omega)
    have hd1 : (0 : Int) < (d : Int) := by omega
    clear hR
    go_enter Tryz.func123, Tryz.ntmps123
    go_wp2
    go_ret
    exact ⟨ret_bool HB.out.symm, Below.refl _ _⟩
theorem e_iRightTy : ∀ args w, (callFunc 123 args).run Tryz.prog w = .ok (.enter 123 args) w := enters_of Tryz.func123 (by kernel_rfl) rfl
theorem iWalkTy (l : List TyI) (v vt : Value) (bt : Nat) (w : World) (hc : w.cell? ⟨bt, 0, none⟩ = some vt) (hbt : bt < w.heap.size) (hR : RowRd 3 TyIEl w vt l) (hv : RowRd 1 IntEl w v (l.map TyI.arity)) (hl : l.length ≤ 1048576) :
    Calls Tryz.prog 75 #[v, .int .i64 0, .func (.func 123) #[] #[.pointer (some ⟨bt, 0, none⟩)]] w fun e w' => e = .returned (.int .i64 (walkS (vTy l) (l.map TyI.arity) (l.length + 1) () 0).1) ∧ Below w.heap.size w w' := by
  refine iWalk (vTy l) (fun _ W => Below w.heap.size w W) 123 #[.pointer (some ⟨bt, 0, none⟩)] e_iRightTy (l.map TyI.arity) v (by simpa using hl) (fun _ W hW => hv.kept IntEl.st (Kept.of_below hW)) ?_ (l.length + 1) () 0 w (Below.refl _ _) (Nat.zero_le _) (by simp)
  intro s W a d n h hW hd h0 h1
  have hci : ((l.map TyI.arity)[a]).toNat ≤ 9223372036854775807 := by
    obtain ⟨p, cap, _, _, h2⟩ := hv.form
    obtain ⟨b, o, _, _, h3⟩ := h2 (by omega)
    have := (h3 a h).2.2
    omega
  exact (iRightTy l vt bt a d n W ((hW.cell (p := ⟨bt, 0, none⟩) hbt).trans hc) (hR.kept TyIEl.st (Kept.of_below hW)) (by simpa using h) (Nat.le_trans hd hci)).mono fun e w' ⟨h1, h2⟩ => ⟨h1, below_tr hW h2⟩
theorem iTyOk (l : List TyI) (v : Value) (w : World) (hR : RowRd 3 TyIEl w v l) :
    Calls Tryz.prog 98 #[.agg #[v]] w fun e w' => e = .returned (.bool (tyOkB l)) ∧ Below w.heap.size w w' := by
  have hR0 := hR
  obtain ⟨p, cap, rfl, hm, hR⟩ := hR.form
  unfold maxLen at hm
  by_cases h0 : 200 < (l.length : Int)
  · have HB := Lib.hid (show tyOkB l = false from by simp [tyOkB]; omega)
    clear hR
    go_enter Tryz.func98, Tryz.ntmps98
    go_wp2
    go_ret
    exact ⟨ret_bool HB.out.symm, Joins.below_alloc1 w _⟩
  · have hlb : decide (200 < (l.length : Int)) = false := by simp; omega
    have HB := Lib.hid (ty_ok l (by omega))
    clear hR
    have HA := fun W (hK : Kept w W) => Lib.hid (iArities l _ W (hR0.kept TyIEl.st hK) (by omega))
    have HW := fun v' W (hK : Kept w W) (hc : W.cell? ⟨w.heap.size, 0, none⟩ = some (.slice p l.length cap)) (hlt : w.heap.size < W.heap.size) (hv : RowRd 1 IntEl W v' (l.map TyI.arity)) => Lib.hid (iWalkTy l v' _ w.heap.size W hc hlt (hR0.kept TyIEl.st hK) hv (by omega))
    generalize (walkS (vTy l) (l.map TyI.arity) (l.length + 1) () 0).1 = r at *
    have c0 : (w.alloc (.cells #[.slice p l.length cap] 61)).cell? ⟨w.heap.size, 0, none⟩ = some (.slice p l.length cap) := by simp
    have K0 : Kept w (w.alloc (.cells #[.slice p l.length cap] 61)) := Kept.alloc _ _
    have B0 : Below w.heap.size w (w.alloc (.cells #[.slice p l.length cap] 61)) := Joins.below_alloc1 w _
    have z0 : w.heap.size < (w.alloc (.cells #[.slice p l.length cap] 61)).heap.size := by simp
    go_enter Tryz.func98, Tryz.ntmps98
    go_wp2_with fail
    clear hR hR0
    generalize w.alloc (.cells #[.slice p l.length cap] 61) = wb at *
    go_region_held3 (fun w' => w'.cell? ⟨w.heap.size, 0, none⟩ = some (.slice p l.length cap) ∧ Kept wb w')
      (first | exact ⟨c0, Kept.refl _⟩ | exact ⟨c0, Kept.drew _⟩ | exact ⟨(hb1.cell (p := ⟨w.heap.size, 0, none⟩) z0).trans c0, (Kept.drew _).trans (Kept.of_below hb1)⟩ | exact ⟨(hb2.cell (p := ⟨w.heap.size, 0, none⟩) (Nat.lt_of_lt_of_le z0 hb1.size)).trans ((hb1.cell (p := ⟨w.heap.size, 0, none⟩) z0).trans c0), ((Kept.drew _).trans (Kept.of_below hb1)).trans (Kept.of_below hb2)⟩)
      (first | (go_at_call 125; refine (HA _ (K0.trans (by first | exact Kept.drew _ | exact Kept.refl _))).out.mono ?_; rintro e w1 ⟨v1, rfl, hv1, hb1⟩) | (go_at_call 75; refine (HW v1 _ ((K0.trans (Kept.drew _)).trans (Kept.of_below hb1)) ((hb1.cell (p := ⟨w.heap.size, 0, none⟩) z0).trans c0) (Nat.lt_of_lt_of_le z0 hb1.size) hv1).out.mono ?_; rintro e w2 ⟨rfl, hb2⟩))
    go_wp2
    go_ret
    refine ⟨ret_bool ?_, B0.trans ((Below.refl _ _).drew.trans (hb1.trans (hb2.mono hb1.size)) |>.mono B0.size)⟩
    rw [HB.out, Bool.eq_iff_iff]; simp
theorem iTyOkC (l : List TyI) (v : Value) (w : World) (hR : RowRd 3 TyIEl w v l) (hz : bTy l ≤ 1048576) :
    Calls Tryz.prog 98 #[.agg #[v]] w fun e w' => e = .returned (.bool (tyOkB l)) ∧ Below w.heap.size w w' := iTyOk l v w hR
end Go.Proofs.YtilincaedjhnpaaGreat
