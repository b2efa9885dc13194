/- Texts of this proof, merged: OkZ2, FnTyI, FnCn, FnTp, OkZ3, QpX. -/
import Derived.Test.YtbehcmogndpkhaaGreatDoorM19
import Derived.Test.YtbehcmogndpkhaaGreatDoorM16
import Derived.Deep.QuietTactic
import Derived.BigQuiet
import Derived.Deep.RegionHeld3
import Derived.Deep.RegionWith
import Derived.Outline
import Derived.Test.YtbehcmogndpkhaaGreatDoorM12
namespace Go.Proofs.YtbehcmogndpkhaaGreatDoor
set_option linter.unusedVariables false
set_option maxRecDepth 100000
open Go.ChangeShapes Go.WideShapes Go.ChangeAt Go.RowKit Go.Maps Go.WideMaps

theorem iEveryPatOk (l : List (List PN)) (v : Value) (w : World) (hR : RowRd 1 PatEl w v l) :
    Calls Tryz.prog 181 #[v, .func (.func 182) #[] #[]] w fun e w' => e = .returned (.bool (l.all patOkB)) ∧ Below w.heap.size w w' :=
  iEveryPat 182 #[] e_iPatOk patOkB l v w hR fun i hi u W hW hu => by
    obtain ⟨v0, rfl, r0⟩ := hu
    exact iPatOk _ v0 W r0
theorem rp_other (x : Nd) (h : ¬ x.kind = 13) : rpB x = decide (x.pats.length = 0) := if_neg h
theorem rp_match (x : Nd) (h : x.kind = 13) : rpB x = (decide ((x.pats.length : Int) = (x.kids.length : Int) - 1) && x.pats.all patOkB) := if_pos h
theorem iRightPats (x : Nd) (u : Value) (w : World) (hu : NdVal w u x) :
    Calls Tryz.prog 130 #[u] w fun e w' => e = .returned (.bool (rpB x)) ∧ Below w.heap.size w w' := by
  obtain ⟨v4, v5, rfl, i0, i1, i2, i3, r4, r5⟩ := hu
  have hE := fun W (hK : Kept w W) => iEveryPatOk x.pats v5 W (r5.kept PatEl.st hK)
  obtain ⟨p4, c4, rfl, m4, -⟩ := r4.form
  obtain ⟨p5, c5, rfl, m5, -⟩ := r5.form
  unfold maxLen at m4 m5
  clear r4 r5
  by_cases h13 : x.kind = 13
  · have HF := Lib.hid (rp_match x h13)
    have hk : (x.kind == 13) = true := by simpa using h13
    have hE1 := hE (w.alloc (.cells #[.int .i64 x.kind, .int .i64 x.at_, .int .i64 x.n, .string x.s, .slice p4 x.kids.length c4, .slice p5 x.pats.length c5] 69)) (Kept.alloc _ _)
    clear h13 hE
    by_cases hl : (x.pats.length : Int) = (x.kids.length : Int) - 1
    · have hl1 : ((x.pats.length : Int) == (x.kids.length : Int) - 1) = true := by simpa using hl
      have HL := Lib.hid (show decide ((x.pats.length : Int) = (x.kids.length : Int) - 1) = true from by simpa using hl)
      have HW := Lib.hid hl
      clear hl
      go_enter Tryz.func130, Tryz.ntmps130
      go_wp2_with (go_at_call 181; refine hE1.mono ?_; rintro e w1 ⟨rfl, hb1⟩)
      go_ret
      refine ⟨ret_bool ?_, below_tr (Joins.below_alloc1 w _) hb1⟩
      rw [HF.out, HL.out]; simp
    · have hl1 : ((x.pats.length : Int) == (x.kids.length : Int) - 1) = false := by simpa using hl
      have HL := Lib.hid (show decide ((x.pats.length : Int) = (x.kids.length : Int) - 1) = false from by simpa using hl)
      clear hl
      go_enter Tryz.func130, Tryz.ntmps130
      go_wp2
      go_ret
      refine ⟨ret_bool ?_, Joins.below_alloc1 w _⟩
      rw [HF.out, HL.out]; simp
  · have HF := Lib.hid (rp_other x h13)
    have hk : (x.kind == 13) = false := by simpa using h13
    clear h13 hE
    go_enter Tryz.func130, Tryz.ntmps130
    go_wp2
    go_ret
    refine ⟨ret_bool ?_, Joins.below_alloc1 w _⟩
    rw [HF.out, Bool.eq_iff_iff]; simp
theorem iIsNode (x : Nd) (u : Value) (w : World) (hu : NdVal w u x) :
    Calls Tryz.prog 61 #[u] w fun e w' => e = .returned (.bool (isNodeB x)) ∧ Below w.heap.size w w' := by
  have hu0 := hu
  obtain ⟨v4, v5, rfl, i0, i1, i2, i3, r4, r5⟩ := hu
  have hN := fun W => iRightN x.kind x.at_ x.n x.s v4 v5 W
  have hS := fun W (hK : Kept w W) => iRightS x.kind x.at_ x.n x.s x.kids v4 v5 W (r4.kept IntEl.st hK) i3
  have hKd := fun W (hK : Kept w W) => iRightKids x.kind x.at_ x.n x.s x.kids v4 v5 W (r4.kept IntEl.st hK)
  have hP := fun W (hK : Kept w W) => iRightPats x _ W (hu0.kept hK)
  have HB := Lib.hid (show isNodeB x = (decide (0 ≤ x.at_) && (rnK x.kind x.n && (rsK x.kind x.s x.kids.length && (rkB x.kind x.kids.length && rpB x)))) from rfl)
  clear hu0
  obtain ⟨p4, c4, rfl, m4, -⟩ := r4.form
  obtain ⟨p5, c5, rfl, m5, -⟩ := r5.form
  unfold maxLen at m4 m5
  clear r4 r5
  generalize rnK x.kind x.n = b1 at *
  generalize rsK x.kind x.s x.kids.length = b2 at *
  generalize rkB x.kind x.kids.length = b3 at *
  generalize rpB x = b4 at *
  by_cases ha : 0 ≤ x.at_
  · have HA := Lib.hid (show decide (0 ≤ x.at_) = true from by simpa using ha)
    go_enter Tryz.func61, Tryz.ntmps61
    go_wp2_with fail
    refine (hN _).mono ?_
    rintro e w1 ⟨rfl, hb1⟩
    have B1 := below_tr (Joins.below_alloc1 w _) hb1
    obtain ⟨hc1, hf1⟩ := bcell hb1
    cases b1
    · go_wp2
      go_ret
      exact ⟨ret_bool (by rw [HB.out, HA.out]; rfl), B1⟩
    · go_wp2_with fail
      refine (hS _ (Kept.of_below B1)).mono ?_
      rintro e w2 ⟨rfl, hb2⟩
      have B2 := below_tr B1 hb2
      obtain ⟨hc2, hf2⟩ := bcell (below_tr hb1 hb2)
      clear hc1 hf1
      cases b2
      · go_wp2
        go_ret
        exact ⟨ret_bool (by rw [HB.out, HA.out]; rfl), B2⟩
      · go_wp2_with fail
        refine (hKd _ (Kept.of_below B2)).mono ?_
        rintro e w3 ⟨rfl, hb3⟩
        have B3 := below_tr B2 hb3
        obtain ⟨hc3, hf3⟩ := bcell (below_tr (below_tr hb1 hb2) hb3)
        clear hc2 hf2
        cases b3
        · go_wp2
          go_ret
          exact ⟨ret_bool (by rw [HB.out, HA.out]; rfl), B3⟩
        · go_wp2_with fail
          refine (hP _ (Kept.of_below B3)).mono ?_
          rintro e w4 ⟨rfl, hb4⟩
          go_wp2
          go_ret
          exact ⟨ret_bool (by rw [HB.out, HA.out]; simp), below_tr B3 hb4⟩
  · have HA := Lib.hid (show decide (0 ≤ x.at_) = false from by simpa using ha)
    have ha' : decide (0 ≤ x.at_) = false := HA.out
    clear ha
    go_enter Tryz.func61, Tryz.ntmps61
    go_wp2
    go_ret
    exact ⟨ret_bool (by rw [HB.out, HA.out]; rfl), Joins.below_alloc1 w _⟩
theorem rf_rec (l : List Nd) (x : Nd) (h : x.kind = 8) : rfB l x = decide (firstNK l x.kids = 5) := if_pos h
theorem rf_cons (l : List Nd) (x : Nd) (h : ¬ x.kind = 8) (hc : isConsN x = true) : rfB l x = decide (firstNK l x.kids = 11) := by rw [rfB, if_neg h, if_pos hc]
theorem rf_other (l : List Nd) (x : Nd) (h : ¬ x.kind = 8) (hc : isConsN x = false) : rfB l x = true := by rw [rfB, if_neg h, hc]; rfl
set_option maxHeartbeats 2000000 in
theorem iRightFirst (l : List Nd) (vt vn u : Value) (x : Nd) (w : World) (hR : RowRd 6 NdEl w vn l) (hu : NdVal w u x) (hk : ∀ k ∈ x.kids, 0 ≤ k ∧ k < (l.length : Int)) (hne : x.kind = 8 ∨ isConsN x = true → 1 ≤ x.kids.length) :
    Calls Tryz.prog 62 #[.agg #[vt, vn], u] w fun e w' => e = .returned (.bool (rfB l x)) ∧ Below w.heap.size w w' := by
  obtain ⟨v4, v5, rfl, i0, i1, i2, i3, r4, r5⟩ := hu
  have hC := fun W => iIsCons x.kind x.at_ x.n x.s v4 v5 W i3
  have e2 : (decide (x.kind = 4) && decide (x.s.toList = [58, 58])) = isConsN x := rfl
  rw [e2] at hC
  obtain ⟨p4, c4, rfl, m4, hkf⟩ := r4.form
  obtain ⟨p5, c5, rfl, m5, -⟩ := r5.form
  obtain ⟨p2, c2, rfl, m2, hnf⟩ := hR.form
  unfold maxLen at m4 m5 m2
  clear r4 r5 hR e2
  by_cases h0 : x.kind = 8 ∨ isConsN x = true
  · have hl := hne h0
    obtain ⟨k, ks, hkk⟩ : ∃ k ks, x.kids = k :: ks := by
      cases hx : x.kids with
      | nil => rw [hx] at hl; simp at hl
      | cons k ks => exact ⟨k, ks, rfl⟩
    obtain ⟨hk0, hk1⟩ := hk k (by simp [hkk])
    obtain ⟨n, rfl⟩ : ∃ n : Nat, k = n := ⟨k.toNat, by omega⟩
    have hn : n < l.length := by omega
    have hg := List.getElem?_eq_getElem hn
    have HN := Lib.hid (show firstNK l x.kids = l[n].kind from by rw [hkk]; simp [firstNK, hg])
    obtain ⟨b4, o4, rfl, hb4, hks⟩ := hkf (by omega)
    have hk4 := (hks 0 (by omega)).1
    simp only [hkk, List.getElem_cons_zero, Nat.zero_mul, Nat.add_zero] at hk4
    obtain ⟨b2, o2, rfl, hb2, hns⟩ := hnf (by omega)
    have hn2 := (hns n hn).1.1
    have hl1 : (0 : Int) < (x.kids.length : Int) := by omega
    have hl2 : 0 < x.kids.length := by omega
    have HR := Lib.hid (rf_rec l x)
    have HC := Lib.hid (rf_cons l x)
    rw [HN.out] at HR HC
    clear hkk hks hkf hns hnf hg hk hne HN hl
    generalize l[n] = y at *
    have hb4' : b4 ≠ w.heap.size := by omega
    have hb2' : b2 ≠ w.heap.size := by omega
    by_cases h8 : x.kind = 8
    · have HF := Lib.hid (HR.out h8)
      have h8' : (x.kind == 8) = true := by simpa using h8
      clear HR HC h0 h8 hC
      go_enter Tryz.func62, Tryz.ntmps62
      go_wp2_with fail
      go_quiet (fail)
      go_wp2
      go_ret
      refine ⟨ret_bool ?_, below_drewN (Joins.below_alloc2 w _ _) _⟩
      rw [HF.out, Bool.eq_iff_iff]; simp
    · have hcs : isConsN x = true := h0.resolve_left h8
      have HF := Lib.hid (HC.out h8 hcs)
      have h8' : (x.kind == 8) = false := by simpa using h8
      rw [hcs] at hC
      clear HR HC h0 h8 hcs
      go_enter Tryz.func62, Tryz.ntmps62
      go_wp2_with fail
      refine (hC _).mono ?_
      rintro e w1 ⟨rfl, hb1⟩
      obtain ⟨hc1, hf1⟩ := bcell hb1
      have K1 := Kept.of_below (below_tr (Joins.below_alloc2 w _ _) hb1)
      have q4 := (K1.cell b4 o4 hb4).trans hk4
      have q2 := (K1.cell b2 _ hb2).trans hn2
      go_wp2_with fail
      go_quiet (fail)
      go_wp2
      go_ret
      refine ⟨ret_bool ?_, below_drewN (below_tr (Joins.below_alloc2 w _ _) hb1) _⟩
      rw [HF.out, Bool.eq_iff_iff]; simp
  · obtain ⟨h8, hc⟩ := not_or.1 h0
    have hc' : isConsN x = false := by simpa using hc
    have HF := Lib.hid (rf_other l x h8 hc')
    have h8' : (x.kind == 8) = false := by simpa using h8
    rw [hc'] at hC
    clear h0 h8 hc hc' hkf hnf hk hne
    go_enter Tryz.func62, Tryz.ntmps62
    go_wp2_with fail
    refine (hC _).mono ?_
    rintro e w1 ⟨rfl, hb1⟩
    go_wp2
    go_ret
    exact ⟨ret_bool HF.out.symm, below_tr (Joins.below_alloc2 w _ _) hb1⟩
theorem iRightNd (l : List Nd) (vt vn : Value) (bp : Nat) (x : Nd) (u : Value) (w : World) (hc0 : w.cell? ⟨bp, 0, none⟩ = some vt) (hc1 : w.cell? ⟨bp, 1, none⟩ = some vn) (hbp : bp < w.heap.size) (hR : RowRd 6 NdEl w vn l) (hu : NdVal w u x) (hk : ∀ k ∈ x.kids, 0 ≤ k ∧ k < (l.length : Int)) :
    Calls Tryz.prog 60 #[u, .pointer (some ⟨bp, 0, none⟩)] w fun e w' => e = .returned (.bool (rightNB l x)) ∧ Below w.heap.size w w' := by
  have hN := fun W (hK : Kept w W) => iIsNode x u W (hu.kept hK)
  have hF := fun W (hK : Kept w W) (hne : x.kind = 8 ∨ isConsN x = true → 1 ≤ x.kids.length) => iRightFirst l vt vn u x W (hR.kept NdEl.st hK) (hu.kept hK) hk hne
  have hne := isNode_first x
  have HB := Lib.hid (show rightNB l x = (isNodeB x && rfB l x) from rfl)
  obtain ⟨v4, v5, rfl, i0, i1, i2, i3, r4, r5⟩ := hu
  obtain ⟨p4, c4, rfl, m4, -⟩ := r4.form
  obtain ⟨p5, c5, rfl, m5, -⟩ := r5.form
  clear r4 r5 hR hk
  generalize isNodeB x = b1 at *
  generalize rfB l x = b2 at *
  have hbn : bp ≠ w.heap.size := by omega
  go_enter Tryz.func60, Tryz.ntmps60
  go_wp2_with fail
  refine (hN _ (Kept.alloc _ _)).mono ?_
  rintro e w1 ⟨rfl, hb1⟩
  have B1 := below_tr (Joins.below_alloc1 w _) hb1
  obtain ⟨hc1', hf1⟩ := bcell hb1
  have q0 := ((Kept.of_below B1).cell bp 0 hbp).trans hc0
  have q1 := ((Kept.of_below B1).cell bp 1 hbp).trans hc1
  cases b1
  · go_wp2
    go_ret
    exact ⟨ret_bool (by rw [HB.out]; rfl), B1⟩
  · have hF1 := hF _ (Kept.of_below B1) (hne rfl)
    go_wp2_with fail
    refine hF1.mono ?_
    rintro e w2 ⟨rfl, hb2⟩
    go_wp2
    go_ret
    exact ⟨ret_bool (by rw [HB.out]; simp), below_tr B1 hb2⟩
theorem e_iRightNd : ∀ args w, (callFunc 60 args).run Tryz.prog w = .ok (.enter 60 args) w := enters_of Tryz.func60 (by kernel_rfl) rfl
end Go.Proofs.YtbehcmogndpkhaaGreatDoor
namespace Go.Proofs.YtbehcmogndpkhaaGreatDoor
set_option linter.unusedVariables false
set_option maxRecDepth 100000
open Go.ChangeShapes Go.WideShapes Go.ChangeAt Go.RowKit

/-- A TyItem that is handed over. -/
def TyIVal (w : World) (v : Value) (x : TyI) : Prop := v = .agg #[.int .i64 x.var, .string x.name, .int .i64 x.arity] ∧ I64 x.var ∧ x.name.size ≤ maxLen ∧ I64 x.arity
theorem TyIVal.kept {w w' : World} {v : Value} {x : TyI} (k : Kept w w') : TyIVal w v x → TyIVal w' v x := fun ⟨h, f0, f1, f2⟩ => ⟨h, f0, f1, f2⟩
theorem iIndexTyI (g : Nat) (lb : Array Value) (eg : ∀ args w, (callFunc g args).run Tryz.prog w = .ok (.enter g args) w) (ok : TyI → Bool) (l : List TyI) (v : Value) (w : World) (hR : RowRd 3 TyIEl w v l)
    (hp : ∀ i (hi : i < l.length) (u : Value) (W : World), Below w.heap.size w W → TyIVal W u l[i] → Calls Tryz.prog g (#[u] ++ lb) W fun e w' => e = .returned (.bool (ok l[i])) ∧ Below W.heap.size W w') :
    Calls Tryz.prog 249 #[v, .func (.func g) #[] lb] w fun e w' => ∃ r : Int, e = .returned (.int .i64 r) ∧ decide (0 ≤ r) = l.any ok ∧ Below w.heap.size w w' := by
  obtain ⟨p, cap, rfl, hm, hR⟩ := hR.form
  unfold maxLen at hm
  go_enter Tryz.func249, Tryz.ntmps249
  go_wp2
  go_loopw [8] (fun i wr => ∃ k : Nat, i = .int .i64 k ∧ k ≤ l.length ∧ (l.take k).any ok = false ∧ Below w.heap.size w wr) (fun i _ => l.length - (intOf i).toNat)
  case atStart => exact ⟨0, rfl, Nat.zero_le _, rfl, Below.refl _ _⟩
  case round =>
    obtain ⟨k, rfl, hk, hno, hbel⟩ := hrel
    have HA := Lib.hid hno
    clear hno
    by_cases hlt : k < l.length
    · obtain ⟨b, o, rfl, hbw, hc⟩ := hR (by omega)
      have ex := TyIEl.st w wr b _ _ (Kept.of_below hbel) hbw (hc k hlt)
      have hpk := fun u => hp k hlt u wr hbel
      have HY := Lib.hid (fun (h : ok l[k] = true) => any_yes ok l k hlt h)
      have HN := Lib.hid (fun (h : ok l[k] = false) => any_snoc ok l k hlt HA.out h)
      clear hc hR hp
      generalize l[k] = x at *
      obtain ⟨⟨e0, i0⟩, ⟨e1, i1⟩, ⟨e2, i2⟩⟩ := ex
      have hp1 := hpk _ ⟨rfl, i0, i1, i2⟩
      clear hpk
      generalize hx : ok x = t at *
      cases t
      · have HN2 := Lib.hid (HN.out rfl)
        clear HN HY
        go_wp2_with (go_at_fn g; refine hp1.mono ?_; rintro e w1 ⟨rfl, hb⟩)
        go_roundw
        case rel => exact ⟨k + 1, by go_num, by omega, HN2.out, below_tr hbel hb⟩
        case measure => simp [intOf]; omega
      · have HY2 := Lib.hid (HY.out rfl)
        clear HN HY
        go_wp2_with (go_at_fn g; refine hp1.mono ?_; rintro e w1 ⟨rfl, hb⟩)
        go_ret
        exact ⟨_, rfl, by rw [HY2.out]; simp, below_tr hbel hb⟩
    · obtain rfl : k = l.length := by omega
      rw [List.take_length] at HA
      go_wp2
      go_ret
      exact ⟨_, rfl, by rw [HA.out]; rfl, hbel⟩
theorem iContainsTyI (g : Nat) (lb : Array Value) (eg : ∀ args w, (callFunc g args).run Tryz.prog w = .ok (.enter g args) w) (ok : TyI → Bool) (l : List TyI) (v : Value) (w : World) (hR : RowRd 3 TyIEl w v l)
    (hp : ∀ i (hi : i < l.length) (u : Value) (W : World), Below w.heap.size w W → TyIVal W u l[i] → Calls Tryz.prog g (#[u] ++ lb) W fun e w' => e = .returned (.bool (ok l[i])) ∧ Below W.heap.size W w') :
    Calls Tryz.prog 224 #[v, .func (.func g) #[] lb] w fun e w' => e = .returned (.bool (l.any ok)) ∧ Below w.heap.size w w' := by
  have hI := iIndexTyI g lb eg ok l v w hR hp
  go_enter Tryz.func224, Tryz.ntmps224
  go_wp2_with (go_at_call 249; refine hI.mono ?_; rintro e w1 ⟨r, rfl, hr, hb⟩)
  go_ret
  refine ⟨ret_bool ?_, hb⟩
  rw [← hr]
theorem iNotTyI (g : Nat) (lb : Array Value) (eg : ∀ args w, (callFunc g args).run Tryz.prog w = .ok (.enter g args) w) (r : Bool) (x : TyI) (u : Value) (bo : Nat) (w : World) (hc : w.cell? ⟨bo, 0, none⟩ = some (.func (.func g) #[] lb)) (hbo : bo < w.heap.size) (hu : TyIVal w u x)
    (hp : ∀ W, Below w.heap.size w W → Calls Tryz.prog g (#[u] ++ lb) W fun e w' => e = .returned (.bool r) ∧ Below W.heap.size W w') :
    Calls Tryz.prog 225 #[u, .pointer (some ⟨bo, 0, none⟩)] w fun e w' => e = .returned (.bool (!r)) ∧ Below w.heap.size w w' := by
  obtain ⟨rfl, _, _, _⟩ := hu
  have hp1 := hp _ (Joins.below_alloc1 w (.cells #[.int .i64 x.var, .string x.name, .int .i64 x.arity] 117))
  have hne : w.heap.size ≠ bo := by omega
  go_enter Tryz.func225, Tryz.ntmps225
  go_wp2_with (go_at_fn g; refine hp1.mono ?_; rintro e w1 ⟨rfl, hb⟩)
  go_ret
  exact ⟨rfl, below_tr (Joins.below_alloc1 w _) hb⟩
theorem e_iNotTyI : ∀ args w, (callFunc 225 args).run Tryz.prog w = .ok (.enter 225 args) w := enters_of Tryz.func225 (by kernel_rfl) rfl
theorem iEveryTyI (g : Nat) (lb : Array Value) (eg : ∀ args w, (callFunc g args).run Tryz.prog w = .ok (.enter g args) w) (ok : TyI → Bool) (l : List TyI) (v : Value) (w : World) (hR : RowRd 3 TyIEl w v l)
    (hp : ∀ i (hi : i < l.length) (u : Value) (W : World), Below w.heap.size w W → TyIVal W u l[i] → Calls Tryz.prog g (#[u] ++ lb) W fun e w' => e = .returned (.bool (ok l[i])) ∧ Below W.heap.size W w') :
    Calls Tryz.prog 187 #[v, .func (.func g) #[] lb] w fun e w' => e = .returned (.bool (l.all ok)) ∧ Below w.heap.size w w' := by
  have hC := fun (T : TypeId) => iContainsTyI 225 #[.pointer (some ⟨w.heap.size, 0, none⟩)] e_iNotTyI (fun x => !ok x) l v (w.alloc (.cells #[.func (.func g) #[] lb] T)) (hR.kept TyIEl.st (Kept.alloc _ _))
    (fun i hi u W hW hu => iNotTyI g lb eg (ok l[i]) l[i] u w.heap.size W ((hW.cell (p := ⟨w.heap.size, 0, none⟩) (by simp)).trans (by simp)) (Nat.lt_of_lt_of_le (by simp) hW.size) hu
      fun W' hB => hp i hi u W' (below_tr (Joins.below_alloc1 w _) (below_tr hW hB)) (hu.kept (Kept.of_below hB)))
  go_enter Tryz.func187, Tryz.ntmps187
  go_wp2_with (go_at_call 224; refine (hC _).mono ?_; rintro e w1 ⟨rfl, hb⟩)
  go_ret
  exact ⟨ret_bool (by rw [all_any]), below_tr (Joins.below_alloc1 w _) hb⟩
end Go.Proofs.YtbehcmogndpkhaaGreatDoor
namespace Go.Proofs.YtbehcmogndpkhaaGreatDoor
set_option linter.unusedVariables false
set_option maxRecDepth 100000
open Go.ChangeShapes Go.WideShapes Go.ChangeAt Go.RowKit

/-- A Con that is handed over. -/
def CnVal (w : World) (v : Value) (x : Cn) : Prop := ∃ v2, v = .agg #[.string x.name, .bool x.has, v2] ∧ x.name.size ≤ maxLen ∧ RowRd 3 TyIEl w v2 x.arg
theorem CnVal.kept {w w' : World} {v : Value} {x : Cn} (k : Kept w w') : CnVal w v x → CnVal w' v x := fun ⟨v2, h, f0, f1⟩ => ⟨v2, h, f0, f1.kept TyIEl.st k⟩
theorem iIndexCn (g : Nat) (lb : Array Value) (eg : ∀ args w, (callFunc g args).run Tryz.prog w = .ok (.enter g args) w) (ok : Cn → Bool) (l : List Cn) (v : Value) (w : World) (hR : RowRd 3 CnEl w v l)
    (hp : ∀ i (hi : i < l.length) (u : Value) (W : World), Below w.heap.size w W → CnVal W u l[i] → Calls Tryz.prog g (#[u] ++ lb) W fun e w' => e = .returned (.bool (ok l[i])) ∧ Below W.heap.size W w') :
    Calls Tryz.prog 227 #[v, .func (.func g) #[] lb] w fun e w' => ∃ r : Int, e = .returned (.int .i64 r) ∧ decide (0 ≤ r) = l.any ok ∧ Below w.heap.size w w' := by
  obtain ⟨p, cap, rfl, hm, hR⟩ := hR.form
  unfold maxLen at hm
  go_enter Tryz.func227, Tryz.ntmps227
  go_wp2
  go_loopw [8] (fun i wr => ∃ k : Nat, i = .int .i64 k ∧ k ≤ l.length ∧ (l.take k).any ok = false ∧ Below w.heap.size w wr) (fun i _ => l.length - (intOf i).toNat)
  case atStart => exact ⟨0, rfl, Nat.zero_le _, rfl, Below.refl _ _⟩
  case round =>
    obtain ⟨k, rfl, hk, hno, hbel⟩ := hrel
    have HA := Lib.hid hno
    clear hno
    by_cases hlt : k < l.length
    · obtain ⟨b, o, rfl, hbw, hc⟩ := hR (by omega)
      have ex := CnEl.st w wr b _ _ (Kept.of_below hbel) hbw (hc k hlt)
      have hpk := fun u => hp k hlt u wr hbel
      have HY := Lib.hid (fun (h : ok l[k] = true) => any_yes ok l k hlt h)
      have HN := Lib.hid (fun (h : ok l[k] = false) => any_snoc ok l k hlt HA.out h)
      clear hc hR hp
      generalize l[k] = x at *
      obtain ⟨⟨e0, i0⟩, e1, ⟨v2, e2, r2⟩⟩ := ex
      unfold BoolEl at e1
      have hp1 := hpk _ ⟨v2, rfl, i0, r2⟩
      clear hpk
      generalize hx : ok x = t at *
      cases t
      · have HN2 := Lib.hid (HN.out rfl)
        clear HN HY
        go_wp2_with (go_at_fn g; refine hp1.mono ?_; rintro e w1 ⟨rfl, hb⟩)
        go_roundw
        case rel => exact ⟨k + 1, by go_num, by omega, HN2.out, below_tr hbel hb⟩
        case measure => simp [intOf]; omega
      · have HY2 := Lib.hid (HY.out rfl)
        clear HN HY
        go_wp2_with (go_at_fn g; refine hp1.mono ?_; rintro e w1 ⟨rfl, hb⟩)
        go_ret
        exact ⟨_, rfl, by rw [HY2.out]; simp, below_tr hbel hb⟩
    · obtain rfl : k = l.length := by omega
      rw [List.take_length] at HA
      go_wp2
      go_ret
      exact ⟨_, rfl, by rw [HA.out]; rfl, hbel⟩
theorem iContainsCn (g : Nat) (lb : Array Value) (eg : ∀ args w, (callFunc g args).run Tryz.prog w = .ok (.enter g args) w) (ok : Cn → Bool) (l : List Cn) (v : Value) (w : World) (hR : RowRd 3 CnEl w v l)
    (hp : ∀ i (hi : i < l.length) (u : Value) (W : World), Below w.heap.size w W → CnVal W u l[i] → Calls Tryz.prog g (#[u] ++ lb) W fun e w' => e = .returned (.bool (ok l[i])) ∧ Below W.heap.size W w') :
    Calls Tryz.prog 191 #[v, .func (.func g) #[] lb] w fun e w' => e = .returned (.bool (l.any ok)) ∧ Below w.heap.size w w' := by
  have hI := iIndexCn g lb eg ok l v w hR hp
  go_enter Tryz.func191, Tryz.ntmps191
  go_wp2_with (go_at_call 227; refine hI.mono ?_; rintro e w1 ⟨r, rfl, hr, hb⟩)
  go_ret
  refine ⟨ret_bool ?_, hb⟩
  rw [← hr]
theorem iNotCn (g : Nat) (lb : Array Value) (eg : ∀ args w, (callFunc g args).run Tryz.prog w = .ok (.enter g args) w) (r : Bool) (x : Cn) (u : Value) (bo : Nat) (w : World) (hc : w.cell? ⟨bo, 0, none⟩ = some (.func (.func g) #[] lb)) (hbo : bo < w.heap.size) (hu : CnVal w u x)
    (hp : ∀ W, Below w.heap.size w W → Calls Tryz.prog g (#[u] ++ lb) W fun e w' => e = .returned (.bool r) ∧ Below W.heap.size W w') :
    Calls Tryz.prog 192 #[u, .pointer (some ⟨bo, 0, none⟩)] w fun e w' => e = .returned (.bool (!r)) ∧ Below w.heap.size w w' := by
  obtain ⟨v2, rfl, _, _⟩ := hu
  have hp1 := hp _ (Joins.below_alloc1 w (.cells #[.string x.name, .bool x.has, v2] 57))
  have hne : w.heap.size ≠ bo := by omega
  go_enter Tryz.func192, Tryz.ntmps192
  go_wp2_with (go_at_fn g; refine hp1.mono ?_; rintro e w1 ⟨rfl, hb⟩)
  go_ret
  exact ⟨rfl, below_tr (Joins.below_alloc1 w _) hb⟩
theorem e_iNotCn : ∀ args w, (callFunc 192 args).run Tryz.prog w = .ok (.enter 192 args) w := enters_of Tryz.func192 (by kernel_rfl) rfl
theorem iEveryCn (g : Nat) (lb : Array Value) (eg : ∀ args w, (callFunc g args).run Tryz.prog w = .ok (.enter g args) w) (ok : Cn → Bool) (l : List Cn) (v : Value) (w : World) (hR : RowRd 3 CnEl w v l)
    (hp : ∀ i (hi : i < l.length) (u : Value) (W : World), Below w.heap.size w W → CnVal W u l[i] → Calls Tryz.prog g (#[u] ++ lb) W fun e w' => e = .returned (.bool (ok l[i])) ∧ Below W.heap.size W w') :
    Calls Tryz.prog 136 #[v, .func (.func g) #[] lb] w fun e w' => e = .returned (.bool (l.all ok)) ∧ Below w.heap.size w w' := by
  have hC := fun (T : TypeId) => iContainsCn 192 #[.pointer (some ⟨w.heap.size, 0, none⟩)] e_iNotCn (fun x => !ok x) l v (w.alloc (.cells #[.func (.func g) #[] lb] T)) (hR.kept CnEl.st (Kept.alloc _ _))
    (fun i hi u W hW hu => iNotCn g lb eg (ok l[i]) l[i] u w.heap.size W ((hW.cell (p := ⟨w.heap.size, 0, none⟩) (by simp)).trans (by simp)) (Nat.lt_of_lt_of_le (by simp) hW.size) hu
      fun W' hB => hp i hi u W' (below_tr (Joins.below_alloc1 w _) (below_tr hW hB)) (hu.kept (Kept.of_below hB)))
  go_enter Tryz.func136, Tryz.ntmps136
  go_wp2_with (go_at_call 191; refine (hC _).mono ?_; rintro e w1 ⟨rfl, hb⟩)
  go_ret
  exact ⟨ret_bool (by rw [all_any]), below_tr (Joins.below_alloc1 w _) hb⟩
end Go.Proofs.YtbehcmogndpkhaaGreatDoor
namespace Go.Proofs.YtbehcmogndpkhaaGreatDoor
set_option linter.unusedVariables false
set_option maxRecDepth 100000
open Go.ChangeShapes Go.WideShapes Go.ChangeAt Go.RowKit

/-- A Type that is handed over. -/
def TpVal (w : World) (v : Value) (x : Tp) : Prop := ∃ v2, v = .agg #[.string x.name, .int .i64 x.params, v2] ∧ x.name.size ≤ maxLen ∧ I64 x.params ∧ RowRd 3 CnEl w v2 x.cons
theorem TpVal.kept {w w' : World} {v : Value} {x : Tp} (k : Kept w w') : TpVal w v x → TpVal w' v x := fun ⟨v2, h, f0, f1, f2⟩ => ⟨v2, h, f0, f1, f2.kept CnEl.st k⟩
theorem iIndexTp (g : Nat) (lb : Array Value) (eg : ∀ args w, (callFunc g args).run Tryz.prog w = .ok (.enter g args) w) (ok : Tp → Bool) (l : List Tp) (v : Value) (w : World) (hR : RowRd 3 TpEl w v l)
    (hp : ∀ i (hi : i < l.length) (u : Value) (W : World), Below w.heap.size w W → TpVal W u l[i] → Calls Tryz.prog g (#[u] ++ lb) W fun e w' => e = .returned (.bool (ok l[i])) ∧ Below W.heap.size W w') :
    Calls Tryz.prog 183 #[v, .func (.func g) #[] lb] w fun e w' => ∃ r : Int, e = .returned (.int .i64 r) ∧ decide (0 ≤ r) = l.any ok ∧ Below w.heap.size w w' := by
  obtain ⟨p, cap, rfl, hm, hR⟩ := hR.form
  unfold maxLen at hm
  go_enter Tryz.func183, Tryz.ntmps183
  go_wp2
  go_loopw [8] (fun i wr => ∃ k : Nat, i = .int .i64 k ∧ k ≤ l.length ∧ (l.take k).any ok = false ∧ Below w.heap.size w wr) (fun i _ => l.length - (intOf i).toNat)
  case atStart => exact ⟨0, rfl, Nat.zero_le _, rfl, Below.refl _ _⟩
  case round =>
    obtain ⟨k, rfl, hk, hno, hbel⟩ := hrel
    have HA := Lib.hid hno
    clear hno
    by_cases hlt : k < l.length
    · obtain ⟨b, o, rfl, hbw, hc⟩ := hR (by omega)
      have ex := TpEl.st w wr b _ _ (Kept.of_below hbel) hbw (hc k hlt)
      have hpk := fun u => hp k hlt u wr hbel
      have HY := Lib.hid (fun (h : ok l[k] = true) => any_yes ok l k hlt h)
      have HN := Lib.hid (fun (h : ok l[k] = false) => any_snoc ok l k hlt HA.out h)
      clear hc hR hp
      generalize l[k] = x at *
      obtain ⟨⟨e0, i0⟩, ⟨e1, i1⟩, ⟨v2, e2, r2⟩⟩ := ex
      have hp1 := hpk _ ⟨v2, rfl, i0, i1, r2⟩
      clear hpk
      generalize hx : ok x = t at *
      cases t
      · have HN2 := Lib.hid (HN.out rfl)
        clear HN HY
        go_wp2_with (go_at_fn g; refine hp1.mono ?_; rintro e w1 ⟨rfl, hb⟩)
        go_roundw
        case rel => exact ⟨k + 1, by go_num, by omega, HN2.out, below_tr hbel hb⟩
        case measure => simp [intOf]; omega
      · have HY2 := Lib.hid (HY.out rfl)
        clear HN HY
        go_wp2_with (go_at_fn g; refine hp1.mono ?_; rintro e w1 ⟨rfl, hb⟩)
        go_ret
        exact ⟨_, rfl, by rw [HY2.out]; simp, below_tr hbel hb⟩
    · obtain rfl : k = l.length := by omega
      rw [List.take_length] at HA
      go_wp2
      go_ret
      exact ⟨_, rfl, by rw [HA.out]; rfl, hbel⟩
theorem iContainsTp (g : Nat) (lb : Array Value) (eg : ∀ args w, (callFunc g args).run Tryz.prog w = .ok (.enter g args) w) (ok : Tp → Bool) (l : List Tp) (v : Value) (w : World) (hR : RowRd 3 TpEl w v l)
    (hp : ∀ i (hi : i < l.length) (u : Value) (W : World), Below w.heap.size w W → TpVal W u l[i] → Calls Tryz.prog g (#[u] ++ lb) W fun e w' => e = .returned (.bool (ok l[i])) ∧ Below W.heap.size W w') :
    Calls Tryz.prog 131 #[v, .func (.func g) #[] lb] w fun e w' => e = .returned (.bool (l.any ok)) ∧ Below w.heap.size w w' := by
  have hI := iIndexTp g lb eg ok l v w hR hp
  go_enter Tryz.func131, Tryz.ntmps131
  go_wp2_with (go_at_call 183; refine hI.mono ?_; rintro e w1 ⟨r, rfl, hr, hb⟩)
  go_ret
  refine ⟨ret_bool ?_, hb⟩
  rw [← hr]
theorem iNotTp (g : Nat) (lb : Array Value) (eg : ∀ args w, (callFunc g args).run Tryz.prog w = .ok (.enter g args) w) (r : Bool) (x : Tp) (u : Value) (bo : Nat) (w : World) (hc : w.cell? ⟨bo, 0, none⟩ = some (.func (.func g) #[] lb)) (hbo : bo < w.heap.size) (hu : TpVal w u x)
    (hp : ∀ W, Below w.heap.size w W → Calls Tryz.prog g (#[u] ++ lb) W fun e w' => e = .returned (.bool r) ∧ Below W.heap.size W w') :
    Calls Tryz.prog 132 #[u, .pointer (some ⟨bo, 0, none⟩)] w fun e w' => e = .returned (.bool (!r)) ∧ Below w.heap.size w w' := by
  obtain ⟨v2, rfl, _, _, _⟩ := hu
  have hp1 := hp _ (Joins.below_alloc1 w (.cells #[.string x.name, .int .i64 x.params, v2] 52))
  have hne : w.heap.size ≠ bo := by omega
  go_enter Tryz.func132, Tryz.ntmps132
  go_wp2_with (go_at_fn g; refine hp1.mono ?_; rintro e w1 ⟨rfl, hb⟩)
  go_ret
  exact ⟨rfl, below_tr (Joins.below_alloc1 w _) hb⟩
theorem e_iNotTp : ∀ args w, (callFunc 132 args).run Tryz.prog w = .ok (.enter 132 args) w := enters_of Tryz.func132 (by kernel_rfl) rfl
theorem iEveryTp (g : Nat) (lb : Array Value) (eg : ∀ args w, (callFunc g args).run Tryz.prog w = .ok (.enter g args) w) (ok : Tp → Bool) (l : List Tp) (v : Value) (w : World) (hR : RowRd 3 TpEl w v l)
    (hp : ∀ i (hi : i < l.length) (u : Value) (W : World), Below w.heap.size w W → TpVal W u l[i] → Calls Tryz.prog g (#[u] ++ lb) W fun e w' => e = .returned (.bool (ok l[i])) ∧ Below W.heap.size W w') :
    Calls Tryz.prog 63 #[v, .func (.func g) #[] lb] w fun e w' => e = .returned (.bool (l.all ok)) ∧ Below w.heap.size w w' := by
  have hC := fun (T : TypeId) => iContainsTp 132 #[.pointer (some ⟨w.heap.size, 0, none⟩)] e_iNotTp (fun x => !ok x) l v (w.alloc (.cells #[.func (.func g) #[] lb] T)) (hR.kept TpEl.st (Kept.alloc _ _))
    (fun i hi u W hW hu => iNotTp g lb eg (ok l[i]) l[i] u w.heap.size W ((hW.cell (p := ⟨w.heap.size, 0, none⟩) (by simp)).trans (by simp)) (Nat.lt_of_lt_of_le (by simp) hW.size) hu
      fun W' hB => hp i hi u W' (below_tr (Joins.below_alloc1 w _) (below_tr hW hB)) (hu.kept (Kept.of_below hB)))
  go_enter Tryz.func63, Tryz.ntmps63
  go_wp2_with (go_at_call 131; refine (hC _).mono ?_; rintro e w1 ⟨rfl, hb⟩)
  go_ret
  exact ⟨ret_bool (by rw [all_any]), below_tr (Joins.below_alloc1 w _) hb⟩
end Go.Proofs.YtbehcmogndpkhaaGreatDoor
namespace Go.Proofs.YtbehcmogndpkhaaGreatDoor
set_option linter.unusedVariables false
set_option maxRecDepth 100000
open Go.ChangeShapes Go.WideShapes Go.ChangeAt Go.RowKit Go.Maps Go.WideMaps

def boundB (params : Int) (x : TyI) : Bool := !decide (x.name.toList = []) || decide (x.var < params)
theorem iIsBound (params : Int) (bp : Nat) (x : TyI) (u : Value) (w : World) (hc : w.cell? ⟨bp, 0, none⟩ = some (.int .i64 params)) (hbp : bp < w.heap.size) (hu : TyIVal w u x) :
    Calls Tryz.prog 185 #[u, .pointer (some ⟨bp, 0, none⟩)] w fun e w' => e = .returned (.bool (boundB params x)) ∧ Below w.heap.size w w' := by
  obtain ⟨rfl, i0, i1, i2⟩ := hu
  have hbn : bp ≠ w.heap.size := by omega
  by_cases hn : x.name.toList = []
  · have h1 : x.name.toList.isEmpty = true := by simp [hn]
    have h2 : (x.name.toList != []) = false := by simp [hn]
    have HF := Lib.hid (show boundB params x = decide (x.var < params) from by simp [boundB, hn])
    go_enter Tryz.func185, Tryz.ntmps185
    go_wp2
    go_ret
    exact ⟨ret_bool HF.out.symm, Joins.below_alloc1 w _⟩
  · have h1 : x.name.toList.isEmpty = false := by simpa using hn
    have h2 : (x.name.toList != []) = true := by simpa using hn
    have HF := Lib.hid (show boundB params x = true from by simp [boundB, hn])
    clear hn
    go_enter Tryz.func185, Tryz.ntmps185
    go_wp2
    go_ret
    exact ⟨ret_bool HF.out.symm, Joins.below_alloc1 w _⟩
theorem e_iIsBound : ∀ args w, (callFunc 185 args).run Tryz.prog w = .ok (.enter 185 args) w := enters_of Tryz.func185 (by kernel_rfl) rfl
theorem con_no (params : Int) (c : Cn) (h : conB c.name = false) : isConB params c = false := by rw [isConB, h]; rfl
theorem con_bare (params : Int) (c : Cn) (h : conB c.name = true) (h2 : c.has = false) : isConB params c = decide (c.arg.length = 0) := by rw [isConB, h, if_pos h2]; rfl
theorem con_has (params : Int) (c : Cn) (h : conB c.name = true) (h2 : c.has = true) : isConB params c = (tyOkB c.arg && c.arg.all (boundB params)) := by
  rw [isConB, h, if_neg (by rw [h2]; simp)]; rfl
theorem iIsCon (params : Int) (c : Cn) (u : Value) (w : World) (hu : CnVal w u c) :
    Calls Tryz.prog 134 #[u, .int .i64 params] w fun e w' => e = .returned (.bool (isConB params c)) ∧ Below w.heap.size w w' := by
  obtain ⟨v2, rfl, i0, r2⟩ := hu
  have hN := fun W => iConOkB c.name W i0
  have hT := fun W (hK : Kept w W) => iTyOk c.arg v2 W (r2.kept TyIEl.st hK)
  have hE := fun W (hK : Kept w W) (bp : Nat) (hc : W.cell? ⟨bp, 0, none⟩ = some (.int .i64 params)) (hbp : bp < W.heap.size) => iEveryTyI 185 #[.pointer (some ⟨bp, 0, none⟩)] e_iIsBound (boundB params) c.arg v2 W (r2.kept TyIEl.st hK)
    (fun i hi u W' hW' hu => iIsBound params bp c.arg[i] u W' ((hW'.cell (p := ⟨bp, 0, none⟩) hbp).trans hc) (Nat.lt_of_lt_of_le hbp hW'.size) hu)
  obtain ⟨p2, c2, rfl, m2, -⟩ := r2.form
  unfold maxLen at m2
  clear r2
  have HN := Lib.hid (con_no params c)
  have HB := Lib.hid (con_bare params c)
  have HH := Lib.hid (con_has params c)
  generalize conB c.name = b1 at *
  cases b1
  · have HF := Lib.hid (HN.out rfl)
    go_enter Tryz.func134, Tryz.ntmps134
    go_wp2_with fail
    refine (hN _).mono ?_
    rintro e w1 ⟨rfl, hb1⟩
    go_wp2
    go_ret
    exact ⟨ret_bool HF.out.symm, below_tr (Joins.below_alloc2 w _ _) hb1⟩
  · cases hh : c.has
    · have HF := Lib.hid (HB.out rfl hh)
      go_enter Tryz.func134, Tryz.ntmps134
      go_wp2_with fail
      refine (hN _).mono ?_
      rintro e w1 ⟨rfl, hb1⟩
      obtain ⟨hc1, hf1⟩ := bcell hb1
      go_wp2
      go_ret
      refine ⟨ret_bool ?_, below_tr (Joins.below_alloc2 w _ _) hb1⟩
      rw [HF.out, Bool.eq_iff_iff]; simp
    · have HF := Lib.hid (HH.out rfl hh)
      clear HN HB HH
      generalize tyOkB c.arg = b2 at *
      go_enter Tryz.func134, Tryz.ntmps134
      go_wp2_with fail
      refine (hN _).mono ?_
      rintro e w1 ⟨rfl, hb1⟩
      obtain ⟨hc1, hf1⟩ := bcell hb1
      have B1 := below_tr (Joins.below_alloc2 w _ _) hb1
      go_wp2_with fail
      refine (hT _ (Kept.of_below B1)).mono ?_
      rintro e w2 ⟨rfl, hb2⟩
      have B2 := below_tr B1 hb2
      have hb12 := below_tr hb1 hb2
      have hsz := hb12.size
      simp at hsz
      obtain ⟨hc2, hf2⟩ := bcell hb12
      have hE1 := hE w2 (Kept.of_below B2) (w.heap.size + 1) (by rw [hc2 _ _ (by simp)]; simp) (by omega)
      clear hc1 hf1
      cases b2
      · go_wp2
        go_ret
        exact ⟨ret_bool (by rw [HF.out]; rfl), B2⟩
      · go_wp2_with fail
        refine hE1.mono ?_
        rintro e w3 ⟨rfl, hb3⟩
        go_wp2
        go_ret
        exact ⟨ret_bool (by rw [HF.out]; simp), below_tr B2 hb3⟩
theorem iIsConC (params : Int) (bt : Nat) (c : Cn) (u : Value) (w : World) (hc : w.cell? ⟨bt, 1, none⟩ = some (.int .i64 params)) (hbt : bt < w.heap.size) (hu : CnVal w u c) :
    Calls Tryz.prog 133 #[u, .pointer (some ⟨bt, 0, none⟩)] w fun e w' => e = .returned (.bool (isConB params c)) ∧ Below w.heap.size w w' := by
  have hN := fun W (hK : Kept w W) => iIsCon params c u W (hu.kept hK)
  obtain ⟨v2, rfl, i0, r2⟩ := hu
  obtain ⟨p2, c2, rfl, m2, -⟩ := r2.form
  have hbn : bt ≠ w.heap.size := by omega
  go_enter Tryz.func133, Tryz.ntmps133
  go_wp2_with fail
  refine (hN _ (Kept.alloc _ _)).mono ?_
  rintro e w1 ⟨rfl, hb1⟩
  go_wp2
  go_ret
  exact ⟨rfl, below_tr (Joins.below_alloc1 w _) hb1⟩
theorem e_iIsConC : ∀ args w, (callFunc 133 args).run Tryz.prog w = .ok (.enter 133 args) w := enters_of Tryz.func133 (by kernel_rfl) rfl
theorem ty_head (t : Tp) (h : ¬ (0 ≤ t.params ∧ t.params ≤ 2 ∧ 1 ≤ t.cons.length ∧ t.cons.length ≤ 8)) : isTypeB t = false := by
  cases hb : isTypeB t
  · rfl
  · exfalso
    unfold isTypeB at hb
    simp only [Bool.and_eq_true, decide_eq_true_eq] at hb
    exact h ⟨hb.2.1, hb.2.2.1, hb.2.2.2.1, hb.2.2.2.2.1⟩
theorem ty_name (t : Tp) (h : nameB t.name = false) : isTypeB t = false := by rw [isTypeB, h]; rfl
theorem ty_rest (t : Tp) (h : 0 ≤ t.params ∧ t.params ≤ 2 ∧ 1 ≤ t.cons.length ∧ t.cons.length ≤ 8) : isTypeB t = (nameB t.name && t.cons.all (isConB t.params)) := by
  obtain ⟨h1, h2, h3, h4⟩ := h
  simp [isTypeB, h1, h2, h3, h4]
theorem iIsType (t : Tp) (u : Value) (w : World) (hu : TpVal w u t) :
    Calls Tryz.prog 64 #[u] w fun e w' => e = .returned (.bool (isTypeB t)) ∧ Below w.heap.size w w' := by
  obtain ⟨v2, rfl, i0, i1, r2⟩ := hu
  have hN := fun W => iNameOkB t.name W i0
  have hE := fun W (hK : Kept w W) (bp : Nat) (hc : W.cell? ⟨bp, 1, none⟩ = some (.int .i64 t.params)) (hbp : bp < W.heap.size) => iEveryCn 133 #[.pointer (some ⟨bp, 0, none⟩)] e_iIsConC (isConB t.params) t.cons v2 W (r2.kept CnEl.st hK)
    (fun i hi u W' hW' hu => iIsConC t.params bp t.cons[i] u W' ((hW'.cell (p := ⟨bp, 1, none⟩) hbp).trans hc) (Nat.lt_of_lt_of_le hbp hW'.size) hu)
  obtain ⟨p2, c2, rfl, m2, -⟩ := r2.form
  unfold maxLen at m2
  clear r2
  have HN := Lib.hid (ty_name t)
  have HH := Lib.hid (ty_head t)
  have HR := Lib.hid (ty_rest t)
  generalize nameB t.name = b1 at *
  cases b1
  · have HF := Lib.hid (HN.out rfl)
    go_enter Tryz.func64, Tryz.ntmps64
    go_wp2_with fail
    refine (hN _).mono ?_
    rintro e w1 ⟨rfl, hb1⟩
    obtain ⟨hc1, hf1⟩ := bcell hb1
    go_wp2
    go_ret
    exact ⟨ret_bool HF.out.symm, below_tr (Joins.below_alloc1 w _) hb1⟩
  · by_cases h1 : 0 ≤ t.params
    · by_cases h2 : t.params ≤ 2
      · by_cases h3 : 1 ≤ t.cons.length
        · by_cases h4 : t.cons.length ≤ 8
          · have HF := Lib.hid (HR.out ⟨h1, h2, h3, h4⟩)
            have h3' : (1 : Int) ≤ (t.cons.length : Int) := by omega
            have h4' : (t.cons.length : Int) ≤ 8 := by omega
            clear h3 h4 HN HH HR
            go_enter Tryz.func64, Tryz.ntmps64
            go_wp2_with fail
            refine (hN _).mono ?_
            rintro e w1 ⟨rfl, hb1⟩
            obtain ⟨hc1, hf1⟩ := bcell hb1
            have B1 := below_tr (Joins.below_alloc1 w _) hb1
            have hsz := hb1.size
            simp at hsz
            have hE1 := hE w1 (Kept.of_below B1) w.heap.size (by rw [hc1 _ _ (by simp)]; simp) (by omega)
            go_wp2_with fail
            refine hE1.mono ?_
            rintro e w3 ⟨rfl, hb3⟩
            go_wp2
            go_ret
            exact ⟨ret_bool (by rw [HF.out]; simp), below_tr B1 hb3⟩
          · have HF := Lib.hid (HH.out (by omega))
            have h3' : (1 : Int) ≤ (t.cons.length : Int) := by omega
            have h4' : decide ((t.cons.length : Int) ≤ 8) = false := by simp; omega
            clear h3 h4 HN HH HR
            go_enter Tryz.func64, Tryz.ntmps64
            go_wp2_with fail
            refine (hN _).mono ?_
            rintro e w1 ⟨rfl, hb1⟩
            obtain ⟨hc1, hf1⟩ := bcell hb1
            go_wp2
            go_ret
            exact ⟨ret_bool HF.out.symm, below_tr (Joins.below_alloc1 w _) hb1⟩
        · have HF := Lib.hid (HH.out (by omega))
          have h3' : decide ((1 : Int) ≤ (t.cons.length : Int)) = false := by simp; omega
          clear h3 HN HH HR
          go_enter Tryz.func64, Tryz.ntmps64
          go_wp2_with fail
          refine (hN _).mono ?_
          rintro e w1 ⟨rfl, hb1⟩
          obtain ⟨hc1, hf1⟩ := bcell hb1
          go_wp2
          go_ret
          exact ⟨ret_bool HF.out.symm, below_tr (Joins.below_alloc1 w _) hb1⟩
      · have HF := Lib.hid (HH.out (by omega))
        have h2' : decide (t.params ≤ 2) = false := by simp; omega
        clear h2 HN HH HR
        go_enter Tryz.func64, Tryz.ntmps64
        go_wp2_with fail
        refine (hN _).mono ?_
        rintro e w1 ⟨rfl, hb1⟩
        obtain ⟨hc1, hf1⟩ := bcell hb1
        go_wp2
        go_ret
        exact ⟨ret_bool HF.out.symm, below_tr (Joins.below_alloc1 w _) hb1⟩
    · have HF := Lib.hid (HH.out (by omega))
      have h1' : decide (0 ≤ t.params) = false := by simp; omega
      clear h1 HN HH HR
      go_enter Tryz.func64, Tryz.ntmps64
      go_wp2_with fail
      refine (hN _).mono ?_
      rintro e w1 ⟨rfl, hb1⟩
      obtain ⟨hc1, hf1⟩ := bcell hb1
      go_wp2
      go_ret
      exact ⟨ret_bool HF.out.symm, below_tr (Joins.below_alloc1 w _) hb1⟩
theorem e_iIsType : ∀ args w, (callFunc 64 args).run Tryz.prog w = .ok (.enter 64 args) w := enters_of Tryz.func64 (by kernel_rfl) rfl
theorem iProgramOk (p : Pg) (v0 v1 : Value) (w : World) (h0 : RowRd 3 TpEl w v0 p.types) (h1 : RowRd 6 NdEl w v1 p.nodes) :
    Calls Tryz.prog 26 #[.agg #[v0, v1]] w fun e w' => e = .returned (.bool (pgOkB p)) ∧ Below w.heap.size w w' := by
  have HP := Lib.hid (pg_ok p)
  have hT := fun W (hK : Kept w W) => iEveryTp 64 #[] e_iIsType isTypeB p.types v0 W (h0.kept TpEl.st hK) (fun i hi u W' hW' hu => iIsType p.types[i] u W' hu)
  have hP := fun W (hK : Kept w W) => iPreNd p.nodes v1 W (h1.kept NdEl.st hK)
  have hkids := pg_kids p.nodes
  have hE := fun (hp : preB (p.nodes.map Nd.kids) = true) W (hK : Kept w W) (bp : Nat) (hc0 : W.cell? ⟨bp, 0, none⟩ = some v0) (hc1 : W.cell? ⟨bp, 1, none⟩ = some v1) (hbp : bp < W.heap.size) => iEveryNd 60 #[.pointer (some ⟨bp, 0, none⟩)] e_iRightNd (rightNB p.nodes) p.nodes v1 W (h1.kept NdEl.st hK)
    (fun i hi u W' hW' hu => iRightNd p.nodes v0 v1 bp p.nodes[i] u W' ((hW'.cell (p := ⟨bp, 0, none⟩) hbp).trans hc0) ((hW'.cell (p := ⟨bp, 1, none⟩) hbp).trans hc1) (Nat.lt_of_lt_of_le hbp hW'.size) (h1.kept NdEl.st (hK.trans (Kept.of_below hW'))) hu (hkids hp _ (List.getElem_mem hi)))
  clear hkids
  obtain ⟨pa, ca, rfl, ma, -⟩ := h0.form
  obtain ⟨pb, cb, rfl, mb, -⟩ := h1.form
  unfold maxLen at ma mb
  clear h0 h1
  generalize p.types.all isTypeB = b1 at *
  generalize hb2 : preB (p.nodes.map Nd.kids) = b2 at *
  generalize p.nodes.all (rightNB p.nodes) = b3 at *
  by_cases h8 : p.types.length ≤ 8
  · have HL := Lib.hid (show decide (p.types.length ≤ 8) = true from by simpa using h8)
    have h8' : (p.types.length : Int) ≤ 8 := by omega
    clear h8
    go_enter Tryz.func26, Tryz.ntmps26
    go_wp2_with fail
    refine (hT _ (Kept.alloc _ _)).mono ?_
    rintro e w1 ⟨rfl, hb1⟩
    obtain ⟨hc1, hf1⟩ := bcell hb1
    have B1 := below_tr (Joins.below_alloc1 w _) hb1
    cases b1
    · go_wp2
      go_ret
      exact ⟨ret_bool (by rw [HP.out, HL.out]; rfl), B1⟩
    · go_wp2_with fail
      refine (hP _ (Kept.of_below B1)).mono ?_
      rintro e w2 ⟨rfl, hb2'⟩
      have B2 := below_tr B1 hb2'
      have hb12 := below_tr hb1 hb2'
      have hsz := hb12.size
      simp at hsz
      obtain ⟨hc2, hf2⟩ := bcell hb12
      clear hc1 hf1
      cases b2
      · go_wp2
        go_ret
        exact ⟨ret_bool (by rw [HP.out, HL.out]; rfl), B2⟩
      · have hE1 := hE rfl w2 (Kept.of_below B2) w.heap.size (by rw [hc2 _ _ (by simp)]; simp) (by rw [hc2 _ _ (by simp)]; simp) (by omega)
        go_wp2_with fail
        refine hE1.mono ?_
        rintro e w3 ⟨rfl, hb3⟩
        go_wp2
        go_ret
        exact ⟨ret_bool (by rw [HP.out, HL.out]; simp), below_tr B2 hb3⟩
  · have HL := Lib.hid (show decide (p.types.length ≤ 8) = false from by simpa using h8)
    have h8' : decide ((p.types.length : Int) ≤ 8) = false := by simp; omega
    clear h8
    go_enter Tryz.func26, Tryz.ntmps26
    go_wp2
    go_ret
    exact ⟨ret_bool (by rw [HP.out, HL.out]; rfl), Joins.below_alloc1 w _⟩
theorem iProgramOkC (p : Pg) (v0 v1 : Value) (w : World) (h0 : RowRd 3 TpEl w v0 p.types) (h1 : RowRd 6 NdEl w v1 p.nodes) (hz : bPg p ≤ 1048576) :
    Calls Tryz.prog 26 #[.agg #[v0, v1]] w fun e w' => e = .returned (.bool (pgOkB p)) ∧ Below w.heap.size w w' := iProgramOk p v0 v1 w h0 h1
end Go.Proofs.YtbehcmogndpkhaaGreatDoor
namespace Go.Proofs.YtbehcmogndpkhaaGreatDoor
set_option linter.unusedVariables false
set_option maxRecDepth 100000
open Go.ChangeShapes Go.WideShapes Go.ChangeAt Go.RowKit

theorem row_len {p : List Nd} (hv : PgV p) (i : Nat) (hi : i < p.length) : (rowM NT (modeTo p p.length i) p[i]).length = p[i].kids.length + 1 := by
  have hN := NT_len (hv.nd i hi)
  have hcons : isConsN p[i] = true → p[i].kids.length = 1 := hv.cons1 hi
  have key : modeTo p p.length i = 0 ∨ ∃ j, ∃ hj : j < p.length, p[j].kids.head? = some (i : Int) ∧ modeTo p p.length i = modeN p[j] := by
    unfold modeTo
    cases hf : (p.take p.length).find? (fun x => decide (x.kids.head? = some (i : Int))) with
    | none => exact .inl rfl
    | some x =>
      have h1 := List.find?_some hf
      simp only [decide_eq_true_eq] at h1
      obtain ⟨j, hj, rfl⟩ := List.getElem_of_mem (List.mem_of_find?_eq_some hf)
      have hj' : j < p.length := by simp at hj; omega
      rw [List.getElem_take] at h1
      exact .inr ⟨j, hj', h1, by rw [List.getElem_take]⟩
  have plain : modeTo p p.length i ≠ 1 → modeTo p p.length i ≠ 2 → (rowM NT (modeTo p p.length i) p[i]).length = p[i].kids.length + 1 := fun h1 h2 => by
    unfold rowM
    rw [if_neg h1, if_neg h2]
    split
    · next h3 =>
      have : p[i].kind = 4 ∧ p[i].kids.length = 0 := by simpa [isLoneN] using h3.2
      rw [this.2]; rfl
    · split
      · next h4 => rw [hcons h4]; rfl
      · exact hN
  rcases key with h0 | ⟨j, hj, hh, hm⟩
  · exact plain (by omega) (by omega)
  · have hf := hv.fst j hj
    obtain ⟨ks, hks⟩ : ∃ ks, p[j].kids = (i : Int) :: ks := by
      cases hq : p[j].kids with
      | nil => rw [hq] at hh; simp at hh
      | cons y ys => rw [hq] at hh; simp only [List.head?_cons, Option.some.injEq] at hh; exact ⟨ys, by rw [hh]⟩
    unfold rfB at hf
    simp only [hks, firstNK, Int.toNat_natCast, List.getElem?_eq_getElem hi] at hf
    by_cases hc : isConsN p[j] = true
    · have h4 : p[j].kind = 4 := by simp only [isConsN, Bool.and_eq_true, decide_eq_true_eq] at hc; exact hc.1
      rw [if_neg (by omega), if_pos hc] at hf
      have h11 : p[i].kind = 11 := by simpa using hf
      have := nk_kids (hv.nd i hi) 11 2 h11 (by decide) (by decide) (by decide)
      rw [hm, show modeN p[j] = 1 from by simp [modeN, hc], this]
      simp [rowM]
    · by_cases h8 : p[j].kind = 8
      · rw [if_pos h8] at hf
        have h5 : p[i].kind = 5 := by simpa using hf
        have := nk_kids (hv.nd i hi) 5 1 h5 (by decide) (by decide) (by decide)
        rw [hm, show modeN p[j] = 2 from by simp [modeN, hc, h8], this]
        simp [rowM]
      · have : modeN p[j] = 0 ∨ modeN p[j] = 3 := by
          unfold modeN
          rw [if_neg hc, if_neg h8]
          split
          · exact .inr rfl
          · exact .inl rfl
        exact plain (by omega) (by omega)
theorem rows_lens {p : List Nd} (hv : PgV p) : ((rowsE p).map fun P => (P.length : Int) - 1) = lens (p.map Nd.kids) := by
  apply List.ext_getElem
  · simp [rowsE_len, lens]
  · intro i h1 h2
    have hi : i < p.length := by simpa [rowsE_len] using h1
    have hT := rowsE_get p i hi
    rw [List.getElem?_eq_getElem (by rw [rowsE_len]; exact hi)] at hT
    injection hT with hT
    have hl := row_len hv i hi
    simp only [List.getElem_map, lens, hT, hl]
    omega
theorem rows_ok {p : List Nd} (hv : PgV p) (hS : ∀ x ∈ p, x.s.size ≤ 1048576) (h0 : 0 < p.length) : ∃ r P, walkS (vL (rowsE p)) ((rowsE p).map fun P => (P.length : Int) - 1) ((rowsE p).length + 1) [] 0 = (r, P) ∧ P ≠ [] ∧ P.length ≤ 1000000 ∧ P.flatten.length ≤ 6000000000 ∧ P.flatten = exprT NT p (p.length + 1) 0 0 := by
  have hM : ∀ T ∈ rowsE p, ∀ t ∈ T, t.length ≤ 5000000 := by
    intro T hT t ht
    obtain ⟨i, hi, rfl⟩ := List.getElem_of_mem hT
    have hi' : i < p.length := by rw [rowsE_len] at hi; exact hi
    have hg := rowsE_get p i hi'
    rw [List.getElem?_eq_getElem hi] at hg
    injection hg with hg
    rw [hg] at ht
    exact rowM_sz (hv.nd i hi') (hS _ (List.getElem_mem hi')) _ t ht
  obtain ⟨P, h1, h2, h3, h4, h5⟩ := weave_len (rowsE p) hv.pre 5000000 hM
  have hlen : (p.map Nd.kids).length = p.length := by simp
  rw [hlen] at h1 h2
  have hm : modeTo p p.length 0 = 0 := modeTo_none fun j hj hh => by
    have := hv.kid hj (k := ((0 : Nat) : Int)) (List.mem_of_mem_head? (by rw [hh]; rfl))
    omega
  have h6 := wT_exprT NT hv.pre (rowsE p) (rowsE_get p) (p.length + 1) 0 h0 (by omega)
  rw [hm] at h6
  refine ⟨(p.length : Int), P, ?_, h4, by omega, by omega, h2.trans h6⟩
  rw [rows_lens hv, rowsE_len]
  exact h1
theorem types_ok {p : Pg} (hz : bPg p ≤ 1048576) (h : ∀ t ∈ p.types, isTypeB t = true) : ∀ t ∈ p.types, t_ok t := by
  intro t ht
  obtain ⟨h1, h2, h3, h4, h5, h6⟩ := isType_parts (h t ht)
  obtain ⟨i, hi, rfl⟩ := List.getElem_of_mem ht
  have hb := bulkL_mem bTp p.types i hi
  unfold bPg at hz
  refine ⟨nm_len (.inl h1), by omega, ⟨h4, h5⟩, fun c hc => ?_, fun c hc => conD_len (h6 c hc)⟩
  have hcq := h6 c hc
  obtain ⟨j, hj, rfl⟩ := List.getElem_of_mem hc
  have hb2 := bulkL_mem bCn p.types[i].cons j hj
  have hb3 : bulkL bCn p.types[i].cons ≤ bTp p.types[i] := by unfold bTp; omega
  have hb4 : bTy p.types[i].cons[j].arg ≤ bCn p.types[i].cons[j] := by unfold bCn; omega
  unfold isConB at hcq
  simp only [Bool.and_eq_true] at hcq
  refine ⟨nm_len (.inr hcq.1), fun hh => ?_, by omega⟩
  rw [if_neg (by simp [hh])] at hcq
  simp only [Bool.and_eq_true] at hcq
  exact hcq.2.1
theorem nodes_ok {p : Pg} (hz : bPg p ≤ 1048576) (hv : PgV p.nodes) : ∀ x ∈ p.nodes, n_ok x := by
  intro x hx
  obtain ⟨i, hi, rfl⟩ := List.getElem_of_mem hx
  have hb := bulkL_mem bNd p.nodes i hi
  unfold bPg at hz
  have h1 : p.nodes[i].s.size ≤ bNd p.nodes[i] := by unfold bNd; omega
  have h2 : bulkL bPat p.nodes[i].pats ≤ bNd p.nodes[i] := by unfold bNd; omega
  have h3 : bulkL bInt p.nodes[i].kids ≤ bNd p.nodes[i] := by unfold bNd; omega
  have h4 := bulkL_len bPat p.nodes[i].pats
  have h5 := bulkL_len bInt p.nodes[i].kids
  refine ⟨hv.nd i hi, by omega, fun q hq => ?_, by omega, by omega⟩
  obtain ⟨j, hj, rfl⟩ := List.getElem_of_mem hq
  have := bulkL_mem bPat p.nodes[i].pats j hj
  omega
set_option maxHeartbeats 8000000 in
theorem iPrintProgramC (p : Pg) (v0 v1 : Value) (w : World) (h0 : RowRd 3 TpEl w v0 p.types) (h1 : RowRd 6 NdEl w v1 p.nodes) (hz : bPg p ≤ 1048576) (hE : TabE w) :
    Calls Tryz.prog 8 #[.agg #[v0, v1]] w fun e w' => e = .returned (.string (prPgRes p)) ∧ Below w.heap.size w w' := by
  have h00 := h0
  have h10 := h1
  obtain ⟨p0, cap0, rfl, hm0, -⟩ := h0.form
  obtain ⟨p1, cap1, rfl, hm1, hr1⟩ := h1.form
  have hO := fun W (hK : Kept w W) => Lib.hid (iProgramOkC p _ _ W (h00.kept TpEl.st hK) (h10.kept NdEl.st hK) hz)
  cases hb : pgOkB p
  · rw [hb] at hO
    have HB := Lib.hid (show prPgRes p = ⟨#[]⟩ from by rw [prPgRes, hb]; rfl)
    clear h00 h10 h0 h1 hr1 hE
    go_enter Tryz.func8, Tryz.ntmps8
    go_wp2_with (go_at_call 26; refine (hO _ (Kept.alloc _ _)).out.mono ?_; rintro e w1 ⟨rfl, hb1⟩; obtain ⟨hcl, hfr⟩ := bcell hb1)
    go_ret
    exact ⟨by rw [HB.out]; rfl, below_tr (Joins.below_alloc1 w _) hb1⟩
  · rw [hb] at hO
    obtain ⟨t8, tok, hv, n6, n0⟩ := pgV_of hb
    have HB0 := (show prPgRes p = ⟨(prgT p.types ++ exprT NT p.nodes (p.nodes.length + 1) 0 0).toArray⟩ from by rw [prPgRes, if_pos hb])
    have hnk := nodes_ok hz hv
    have hS : ∀ x ∈ p.nodes, x.s.size ≤ 1048576 := fun x hx => (hnk x hx).s
    obtain ⟨r, P, hP, hne, hPl, hPf, hPt⟩ := rows_ok hv hS n0
    rw [← hPt] at HB0
    have HB := Lib.hid HB0
    have hgl := prgT_len tok
    have hgl2 := Nat.mul_le_mul_left 200000 t8
    have hMT := fun W (hK : Kept w W) (hT : TabE W) => Lib.hid (iTxTp p.types _ W (h00.kept TpEl.st hK) (by omega) (types_ok hz tok) hT)
    have hMN := fun W (hK : Kept w W) (hT : TabE W) => Lib.hid (iTxNd p.nodes _ W (h10.kept NdEl.st hK) (by omega) hnk hT)
    have hV := fun W v' (hr : RowRd 1 (RowEl 1 StrEl) W v' ((rowsE p.nodes).map strs)) => Lib.hid (iWoven (rowsE p.nodes) (fun Q hQ => by
      obtain ⟨i, hi, rfl⟩ := List.getElem_of_mem hQ
      have hi' : i < p.nodes.length := by rw [rowsE_len] at hi; exact hi
      have hg := rowsE_get p.nodes i hi'
      rw [List.getElem?_eq_getElem hi] at hg
      injection hg with hg
      have := row_len hv i hi'
      rw [hg, this]; omega) (by rw [rowsE_len]; omega) v' W hr r P hP hne hPl (by omega))
    have hcf : prgT p.types = (p.types.map typeT).flatten := rfl
    have HJ1 := fun (W : World) (g cap : Nat) (h1 : ∀ (j : Nat) x, (strs (p.types.map typeT))[j]? = some x → W.cell? ⟨g, 0 + j, none⟩ = some (.string x)) (h2 : g < W.heap.size) (h3 : (strs (p.types.map typeT)).length ≤ cap) => Lib.hid (joined g 0 cap (strs (p.types.map typeT)) W h1 h2 (by rw [strs_length, List.length_map]; omega) h3 (by rw [cat_strs, ← hcf]; omega))
    rw [cat_strs, ← hcf] at HJ1
    have hGl : (prgT p.types).length ≤ 2000000 := by omega
    generalize prgT p.types = G at *
    have HC2 := Lib.hid (show cat [⟨G.toArray⟩, ⟨P.flatten.toArray⟩] = G ++ P.flatten from by simp [cat])
    have hcl2 : (cat [⟨G.toArray⟩, ⟨P.flatten.toArray⟩]).length ≤ 140737488355328 := by rw [HC2.out, List.length_append]; omega
    have HJ2 := Lib.hid fun (W : World) (n : Nat) (hn : n = W.heap.size) => joined n 0 2 [⟨G.toArray⟩, ⟨P.flatten.toArray⟩] (W.alloc (.cells #[.string ⟨G.toArray⟩, .string ⟨P.flatten.toArray⟩] 9)) (strs_at _ _ _ _ _ hn rfl) (by simp [hn]) (by simp) (by simp) hcl2
    generalize cat [⟨G.toArray⟩, ⟨P.flatten.toArray⟩] = C at *
    generalize P.flatten = X at *
    have HE := Lib.hid hE
    have HV := Lib.hid hv
    have HSS := Lib.hid hS
    have hml : ((rowsE p.nodes).map strs).length = p.nodes.length := by rw [List.length_map, rowsE_len]
    obtain ⟨b, o, rfl, hbw, hc⟩ := hr1 (by omega)
    have HCC := Lib.hid hc
    clear h00 h10 h0 h1 hr1 hE hv hS hP hne hPl hPf hPt HB0 hnk hz tok hcf hc hgl hgl2 hcl2
    generalize p.types.length = lt at *
    generalize hsT : strs (p.types.map typeT) = sT at *
    clear hsT
    go_enter Tryz.func8, Tryz.ntmps8
    go_wp2_with (first
      | (go_at_call 26; go_loud (refine (hO _ (Kept.alloc _ _)).out.mono ?_); rintro e w1 ⟨rfl, hb1⟩; have B1 := below_tr (Joins.below_alloc1 w _) hb1; have z1 := hb1.size; simp only [World.size_alloc] at z1; have c1 : w1.cell? ⟨w.heap.size, 0, none⟩ = some (.slice p0 lt cap0) := (by rw [hb1.cell (p := ⟨w.heap.size, 0, none⟩) (by simp)]; simp); have d1 : w1.cell? ⟨w.heap.size, 1, none⟩ = some (.slice (some ⟨b, o, none⟩) p.nodes.length cap1) := (by rw [hb1.cell (p := ⟨w.heap.size, 1, none⟩) (by simp)]; simp))
      | (go_at_call 28; go_loud (refine (hMT _ (Kept.of_below B1) (HE.out.below B1)).out.mono ?_); rintro e w2 ⟨gt, gtc, rfl, gt1, gt2, gt3, hb2⟩; have B2 := below_tr B1 hb2)
      | (go_at_call 27; go_loud (refine (HJ1 w2 gt gtc gt3 gt1 gt2).out.mono ?_); rintro e w3 ⟨rfl, hb3⟩; have B3 := below_tr B2 hb3; have z3 := Nat.le_trans hb2.size hb3.size; have c3 := (hb3.cell (p := ⟨w.heap.size, 0, none⟩) (by have := hb2.size; show w.heap.size < _; omega)).trans ((hb2.cell (p := ⟨w.heap.size, 0, none⟩) (by show w.heap.size < _; omega)).trans c1); have d3 := (hb3.cell (p := ⟨w.heap.size, 1, none⟩) (by have := hb2.size; show w.heap.size < _; omega)).trans ((hb2.cell (p := ⟨w.heap.size, 1, none⟩) (by show w.heap.size < _; omega)).trans d1))
      | (go_at_call 30; go_loud (refine (hMN _ (Kept.of_below B3) (HE.out.below B3)).out.mono ?_); rintro e w4 ⟨v4, us0, rfl, hlen, hown, htx, hb4⟩; obtain ⟨g, gc, hvv, g1, g2, g3, g4, g5⟩ := own_shape hown (by omega); rw [hlen] at hvv; subst hvv; have B4 := below_tr B3 hb4; have c4 := (hb4.cell (p := ⟨w.heap.size, 0, none⟩) (by show w.heap.size < _; omega)).trans c3; have d4 := (hb4.cell (p := ⟨w.heap.size, 1, none⟩) (by show w.heap.size < _; omega)).trans d3))
    have I0 : QI p.nodes g w4 0 us0 w4 := ⟨hlen, fun i hi => by rw [g4 i hi, List.getElem?_eq_getElem hi], g5, fun i hi hq => by rw [rowTo_0]; exact htx g rfl i hi hq, ButF.refl _ _, g2⟩
    have hgc : p.nodes.length ≤ gc := by omega
    have hgw : w.heap.size < g := by omega
    clear hMT hMN hO htx hown g3 g4 g5 hb1 hb2 hb3 hb4 HJ1 gt1 gt2 gt3 c1 d1 c3 d3
    go_loopw [20] (fun i wr => ∃ (k : Nat) (us : List Value), i = .int .i64 k ∧ k ≤ p.nodes.length ∧ QI p.nodes g w4 k us wr) (fun i _ => p.nodes.length - (intOf i).toNat)
    case atStart => exact ⟨0, us0, rfl, Nat.zero_le _, I0⟩
    case round =>
      obtain ⟨k, us, rfl, hk, hI⟩ := hrel
      clear I0
      have hbel : Below w.heap.size w wr := B4.trans (hI.but.bel (B := w.heap.size) (fun j hj => by rw [List.mem_singleton.1 hj]; omega) B4.size)
      have hz4 : w.heap.size < w4.heap.size := by omega
      have c5 := (World.cell?_of_block (a := ⟨w.heap.size, 0, none⟩) (hI.but.block w.heap.size hz4 (by simp; omega))).trans c4
      have d5 := (World.cell?_of_block (a := ⟨w.heap.size, 1, none⟩) (hI.but.block w.heap.size hz4 (by simp; omega))).trans d4
      have K := Kept.of_below hbel
      have hzr : w.heap.size < wr.heap.size := by have := hI.but.size; omega
      by_cases hlt : k < p.nodes.length
      · have ex := NdEl.st w wr b _ _ K hbw (HCC.out k hlt)
        obtain ⟨⟨e0, i0⟩, ⟨e1, i1⟩, ⟨e2, i2⟩, ⟨e3, i3⟩, ⟨u4, e4, r4⟩, ⟨u5, e5, r5⟩⟩ := ex
        have r40 := r4
        obtain ⟨pk, ck, rfl, -, -⟩ := r4.form
        obtain ⟨pq, cq, rfl, -, -⟩ := r5.form
        have hAd := Lib.hid (iAdapt p.nodes HV.out g gc k us p0 lt cap0 b o cap1 w4 (wr.alloc (.cells #[.int .i64 p.nodes[k].kind, .int .i64 p.nodes[k].at_, .int .i64 p.nodes[k].n, .string p.nodes[k].s, .slice pk p.nodes[k].kids.length ck, .slice pq p.nodes[k].pats.length cq] 69)) (hI.kept (Joins.below_alloc1 wr _)) hlt (by have := hbel.size; simp; omega) (fun i h => NdEl.st w _ b _ _ (K.trans (Kept.alloc _ _)) hbw (HCC.out i h)) pk pq ck cq (r40.kept IntEl.st (Kept.alloc _ _)) n6 hgc HSS.out)
        clear r4 r5 r40 hI c4 d4
        go_wp2_with (go_at_call 32; go_loud (refine hAd.out.mono ?_); rintro e w5 ⟨rfl, us', hI'⟩)
        go_roundw
        case rel => exact ⟨k + 1, us', by go_num, by omega, hI'⟩
        case measure => simp [intOf]; omega
      · obtain rfl : k = p.nodes.length := by omega
        have HF := Lib.hid (hI.fin (by unfold maxLen; omega) hgc)
        rw [hml] at HF
        clear hI c4 d4 hml
        go_wp2_with (first
          | (go_at_call 33; go_loud (refine (hV _ _ HF.out).out.mono ?_); rintro e w6 ⟨rfl, hb6⟩)
          | (go_at_call 27; go_loud (refine (HJ2.out _ _ (by simp)).mono ?_); rintro e w7 ⟨rfl, hb7⟩))
        go_ret
        exact ⟨by rw [HB.out, ← HC2.out]; rfl, below_tr (below_tr (below_tr hbel hb6) (Joins.below_alloc1 w6 _)) hb7⟩
end Go.Proofs.YtbehcmogndpkhaaGreatDoor
