/- The program's check of a node: its patterns, the whole of it, its first child. -/
import Derived.Test.YtilincaedjhnpaaGreatOkZ1
import Derived.Test.YtilincaedjhnpaaGreatOkY4
import Derived.Test.YtilincaedjhnpaaGreatFnPat
import Derived.Test.YtilincaedjhnpaaGreatPreNd
namespace Go.Proofs.YtilincaedjhnpaaGreat
set_option linter.unusedVariables false
set_option maxRecDepth 100000
open Go.ChangeShapes Go.WideShapes Go.ChangeAt Go.RowKit Go.Maps Go.WideMaps

theorem iEveryPatOk (l : List (List PN)) (v : Value) (w : World) (hR : RowRd 1 PatEl w v l) :
    Calls Tryz.prog 93 #[v, .func (.func 94) #[] #[]] w fun e w' => e = .returned (.bool (l.all patOkB)) ∧ Below w.heap.size w w' :=
  iEveryPat 94 #[] e_iPatOk patOkB l v w hR fun i hi u W hW hu => by
    obtain ⟨v0, rfl, r0⟩ := hu
    exact iPatOk _ v0 W r0
theorem rp_other (x : Nd) (h : ¬ x.kind = 13) : rpB x = decide (x.pats.length = 0) := if_neg h
theorem rp_match (x : Nd) (h : x.kind = 13) : rpB x = (decide ((x.pats.length : Int) = (x.kids.length : Int) - 1) && x.pats.all patOkB) := if_pos h
theorem iRightPats (x : Nd) (u : Value) (w : World) (hu : NdVal w u x) :
    Calls Tryz.prog 64 #[u] w fun e w' => e = .returned (.bool (rpB x)) ∧ Below w.heap.size w w' := by
  obtain ⟨v4, v5, rfl, i0, i1, i2, i3, r4, r5⟩ := hu
  have hE := fun W (hK : Kept w W) => iEveryPatOk x.pats v5 W (r5.kept PatEl.st hK)
  obtain ⟨p4, c4, rfl, m4, -⟩ := r4.form
  obtain ⟨p5, c5, rfl, m5, -⟩ := r5.form
  unfold maxLen at m4 m5
  clear r4 r5
  by_cases h13 : x.kind = 13
  · have HF := Lib.hid (rp_match x h13)
    have hk : (x.kind == 13) = true := by simpa using h13
    have hE1 := hE (w.alloc (.cells #[.int .i64 x.kind, .int .i64 x.at_, .int .i64 x.n, .string x.s, .slice p4 x.kids.length c4, .slice p5 x.pats.length c5] 67)) (Kept.alloc _ _)
    clear h13 hE
    by_cases hl : (x.pats.length : Int) = (x.kids.length : Int) - 1
    · have hl1 : ((x.pats.length : Int) == (x.kids.length : Int) - 1) = true := by simpa using hl
      have HL := Lib.hid (show decide ((x.pats.length : Int) = (x.kids.length : Int) - 1) = true from by simpa using hl)
      have HW := Lib.hid hl
      clear hl
      go_enter Tryz.func64, Tryz.ntmps64
      go_wp2_with (go_at_call 93; refine hE1.mono ?_; rintro e w1 ⟨rfl, hb1⟩)
      go_ret
      refine ⟨ret_bool ?_, below_tr (Joins.below_alloc1 w _) hb1⟩
      rw [HF.out, HL.out]; simp
    · have hl1 : ((x.pats.length : Int) == (x.kids.length : Int) - 1) = false := by simpa using hl
      have HL := Lib.hid (show decide ((x.pats.length : Int) = (x.kids.length : Int) - 1) = false from by simpa using hl)
      clear hl
      go_enter Tryz.func64, Tryz.ntmps64
      go_wp2
      go_ret
      refine ⟨ret_bool ?_, Joins.below_alloc1 w _⟩
      rw [HF.out, HL.out]; simp
  · have HF := Lib.hid (rp_other x h13)
    have hk : (x.kind == 13) = false := by simpa using h13
    clear h13 hE
    go_enter Tryz.func64, Tryz.ntmps64
    go_wp2
    go_ret
    refine ⟨ret_bool ?_, Joins.below_alloc1 w _⟩
    rw [HF.out, Bool.eq_iff_iff]; simp
theorem iIsNode (x : Nd) (u : Value) (w : World) (hu : NdVal w u x) :
    Calls Tryz.prog 36 #[u] w fun e w' => e = .returned (.bool (isNodeB x)) ∧ Below w.heap.size w w' := by
  have hu0 := hu
  obtain ⟨v4, v5, rfl, i0, i1, i2, i3, r4, r5⟩ := hu
  have hN := fun W => iRightN x.kind x.at_ x.n x.s v4 v5 W
  have hS := fun W (hK : Kept w W) => iRightS x.kind x.at_ x.n x.s x.kids v4 v5 W (r4.kept IntEl.st hK) i3
  have hKd := fun W (hK : Kept w W) => iRightKids x.kind x.at_ x.n x.s x.kids v4 v5 W (r4.kept IntEl.st hK)
  have hP := fun W (hK : Kept w W) => iRightPats x _ W (hu0.kept hK)
  have HB := Lib.hid (show isNodeB x = (decide (0 ≤ x.at_) && (rnK x.kind x.n && (rsK x.kind x.s x.kids.length && (rkB x.kind x.kids.length && rpB x)))) from rfl)
  clear hu0
  obtain ⟨p4, c4, rfl, m4, -⟩ := r4.form
  obtain ⟨p5, c5, rfl, m5, -⟩ := r5.form
  unfold maxLen at m4 m5
  clear r4 r5
  generalize rnK x.kind x.n = b1 at *
  generalize rsK x.kind x.s x.kids.length = b2 at *
  generalize rkB x.kind x.kids.length = b3 at *
  generalize rpB x = b4 at *
  by_cases ha : 0 ≤ x.at_
  · have HA := Lib.hid (show decide (0 ≤ x.at_) = true from by simpa using ha)
    go_enter Tryz.func36, Tryz.ntmps36
    go_wp2_with fail
    refine (hN _).mono ?_
    rintro e w1 ⟨rfl, hb1⟩
    have B1 := below_tr (Joins.below_alloc1 w _) hb1
    obtain ⟨hc1, hf1⟩ := bcell hb1
    cases b1
    · go_wp2
      go_ret
      exact ⟨ret_bool (by rw [HB.out, HA.out]; rfl), B1⟩
    · go_wp2_with fail
      refine (hS _ (Kept.of_below B1)).mono ?_
      rintro e w2 ⟨rfl, hb2⟩
      have B2 := below_tr B1 hb2
      obtain ⟨hc2, hf2⟩ := bcell (below_tr hb1 hb2)
      clear hc1 hf1
      cases b2
      · go_wp2
        go_ret
        exact ⟨ret_bool (by rw [HB.out, HA.out]; rfl), B2⟩
      · go_wp2_with fail
        refine (hKd _ (Kept.of_below B2)).mono ?_
        rintro e w3 ⟨rfl, hb3⟩
        have B3 := below_tr B2 hb3
        obtain ⟨hc3, hf3⟩ := bcell (below_tr (below_tr hb1 hb2) hb3)
        clear hc2 hf2
        cases b3
        · go_wp2
          go_ret
          exact ⟨ret_bool (by rw [HB.out, HA.out]; rfl), B3⟩
        · go_wp2_with fail
          refine (hP _ (Kept.of_below B3)).mono ?_
          rintro e w4 ⟨rfl, hb4⟩
          go_wp2
          go_ret
          exact ⟨ret_bool (by rw [HB.out, HA.out]; simp), below_tr B3 hb4⟩
  · have HA := Lib.hid (show decide (0 ≤ x.at_) = false from by simpa using ha)
    have ha' : decide (0 ≤ x.at_) = false := HA.out
    clear ha
    go_enter Tryz.func36, Tryz.ntmps36
    go_wp2
    go_ret
    exact ⟨ret_bool (by rw [HB.out, HA.out]; rfl), Joins.below_alloc1 w _⟩
theorem rf_rec (l : List Nd) (x : Nd) (h : x.kind = 8) : rfB l x = decide (firstNK l x.kids = 5) := if_pos h
theorem rf_cons (l : List Nd) (x : Nd) (h : ¬ x.kind = 8) (hc : isConsN x = true) : rfB l x = decide (firstNK l x.kids = 11) := by rw [rfB, if_neg h, if_pos hc]
theorem rf_other (l : List Nd) (x : Nd) (h : ¬ x.kind = 8) (hc : isConsN x = false) : rfB l x = true := by rw [rfB, if_neg h, hc]; rfl
set_option maxHeartbeats 2000000 in
theorem iRightFirst (l : List Nd) (vt vn u : Value) (x : Nd) (w : World) (hR : RowRd 6 NdEl w vn l) (hu : NdVal w u x) (hk : ∀ k ∈ x.kids, 0 ≤ k ∧ k < (l.length : Int)) (hne : x.kind = 8 ∨ isConsN x = true → 1 ≤ x.kids.length) :
    Calls Tryz.prog 37 #[.agg #[vt, vn], u] w fun e w' => e = .returned (.bool (rfB l x)) ∧ Below w.heap.size w w' := by
  obtain ⟨v4, v5, rfl, i0, i1, i2, i3, r4, r5⟩ := hu
  have hC := fun W => iIsCons x.kind x.at_ x.n x.s v4 v5 W i3
  have e2 : (decide (x.kind = 4) && decide (x.s.toList = [58, 58])) = isConsN x := rfl
  rw [e2] at hC
  obtain ⟨p4, c4, rfl, m4, hkf⟩ := r4.form
  obtain ⟨p5, c5, rfl, m5, -⟩ := r5.form
  obtain ⟨p2, c2, rfl, m2, hnf⟩ := hR.form
  unfold maxLen at m4 m5 m2
  clear r4 r5 hR e2
  by_cases h0 : x.kind = 8 ∨ isConsN x = true
  · have hl := hne h0
    obtain ⟨k, ks, hkk⟩ : ∃ k ks, x.kids = k :: ks := by
      cases hx : x.kids with
      | nil => rw [hx] at hl; simp at hl
      | cons k ks => exact ⟨k, ks, rfl⟩
    obtain ⟨hk0, hk1⟩ := hk k (by simp [hkk])
    obtain ⟨n, rfl⟩ : ∃ n : Nat, k = n := ⟨k.toNat, by omega⟩
    have hn : n < l.length := by omega
    have hg := List.getElem?_eq_getElem hn
    have HN := Lib.hid (show firstNK l x.kids = l[n].kind from by rw [hkk]; simp [firstNK, hg])
    obtain ⟨b4, o4, rfl, hb4, hks⟩ := hkf (by omega)
    have hk4 := (hks 0 (by omega)).1
    simp only [hkk, List.getElem_cons_zero, Nat.zero_mul, Nat.add_zero] at hk4
    obtain ⟨b2, o2, rfl, hb2, hns⟩ := hnf (by omega)
    have hn2 := (hns n hn).1.1
    have hl1 : (0 : Int) < (x.kids.length : Int) := by omega
    have hl2 : 0 < x.kids.length := by omega
    have HR := Lib.hid (rf_rec l x)
    have HC := Lib.hid (rf_cons l x)
    rw [HN.out] at HR HC
    clear hkk hks hkf hns hnf hg hk hne HN hl
    generalize l[n] = y at *
    have hb4' : b4 ≠ w.heap.size := by omega
    have hb2' : b2 ≠ w.heap.size := by omega
    by_cases h8 : x.kind = 8
    · have HF := Lib.hid (HR.out h8)
      have h8' : (x.kind == 8) = true := by simpa using h8
      clear HR HC h0 h8 hC
      go_enter Tryz.func37, Tryz.ntmps37
      go_wp2_with fail
      go_quiet (fail)
      go_wp2
      go_ret
      refine ⟨ret_bool ?_, below_drewN (Joins.below_alloc2 w _ _) _⟩
      rw [HF.out, Bool.eq_iff_iff]; simp
    · have hcs : isConsN x = true := h0.resolve_left h8
      have HF := Lib.hid (HC.out h8 hcs)
      have h8' : (x.kind == 8) = false := by simpa using h8
      rw [hcs] at hC
      clear HR HC h0 h8 hcs
      go_enter Tryz.func37, Tryz.ntmps37
      go_wp2_with fail
      refine (hC _).mono ?_
      rintro e w1 ⟨rfl, hb1⟩
      obtain ⟨hc1, hf1⟩ := bcell hb1
      have K1 := Kept.of_below (below_tr (Joins.below_alloc2 w _ _) hb1)
      have q4 := (K1.cell b4 o4 hb4).trans hk4
      have q2 := (K1.cell b2 _ hb2).trans hn2
      go_wp2_with fail
      go_quiet (fail)
      go_wp2
      go_ret
      refine ⟨ret_bool ?_, below_drewN (below_tr (Joins.below_alloc2 w _ _) hb1) _⟩
      rw [HF.out, Bool.eq_iff_iff]; simp
  · obtain ⟨h8, hc⟩ := not_or.1 h0
    have hc' : isConsN x = false := by simpa using hc
    have HF := Lib.hid (rf_other l x h8 hc')
    have h8' : (x.kind == 8) = false := by simpa using h8
    rw [hc'] at hC
    clear h0 h8 hc hc' hkf hnf hk hne
    go_enter Tryz.func37, Tryz.ntmps37
    go_wp2_with fail
    refine (hC _).mono ?_
    rintro e w1 ⟨rfl, hb1⟩
    go_wp2
    go_ret
    exact ⟨ret_bool HF.out.symm, below_tr (Joins.below_alloc2 w _ _) hb1⟩
theorem iRightNd (l : List Nd) (vt vn : Value) (bp : Nat) (x : Nd) (u : Value) (w : World) (hc0 : w.cell? ⟨bp, 0, none⟩ = some vt) (hc1 : w.cell? ⟨bp, 1, none⟩ = some vn) (hbp : bp < w.heap.size) (hR : RowRd 6 NdEl w vn l) (hu : NdVal w u x) (hk : ∀ k ∈ x.kids, 0 ≤ k ∧ k < (l.length : Int)) :
    Calls Tryz.prog 35 #[u, .pointer (some ⟨bp, 0, none⟩)] w fun e w' => e = .returned (.bool (rightNB l x)) ∧ Below w.heap.size w w' := by
  have hN := fun W (hK : Kept w W) => iIsNode x u W (hu.kept hK)
  have hF := fun W (hK : Kept w W) (hne : x.kind = 8 ∨ isConsN x = true → 1 ≤ x.kids.length) => iRightFirst l vt vn u x W (hR.kept NdEl.st hK) (hu.kept hK) hk hne
  have hne := isNode_first x
  have HB := Lib.hid (show rightNB l x = (isNodeB x && rfB l x) from rfl)
  obtain ⟨v4, v5, rfl, i0, i1, i2, i3, r4, r5⟩ := hu
  obtain ⟨p4, c4, rfl, m4, -⟩ := r4.form
  obtain ⟨p5, c5, rfl, m5, -⟩ := r5.form
  clear r4 r5 hR hk
  generalize isNodeB x = b1 at *
  generalize rfB l x = b2 at *
  have hbn : bp ≠ w.heap.size := by omega
  go_enter Tryz.func35, Tryz.ntmps35
  go_wp2_with fail
  refine (hN _ (Kept.alloc _ _)).mono ?_
  rintro e w1 ⟨rfl, hb1⟩
  have B1 := below_tr (Joins.below_alloc1 w _) hb1
  obtain ⟨hc1', hf1⟩ := bcell hb1
  have q0 := ((Kept.of_below B1).cell bp 0 hbp).trans hc0
  have q1 := ((Kept.of_below B1).cell bp 1 hbp).trans hc1
  cases b1
  · go_wp2
    go_ret
    exact ⟨ret_bool (by rw [HB.out]; rfl), B1⟩
  · have hF1 := hF _ (Kept.of_below B1) (hne rfl)
    go_wp2_with fail
    refine hF1.mono ?_
    rintro e w2 ⟨rfl, hb2⟩
    go_wp2
    go_ret
    exact ⟨ret_bool (by rw [HB.out]; simp), below_tr B1 hb2⟩
theorem e_iRightNd : ∀ args w, (callFunc 35 args).run Tryz.prog w = .ok (.enter 35 args) w := enters_of Tryz.func35 (by kernel_rfl) rfl
end Go.Proofs.YtilincaedjhnpaaGreat
