/- The model's check of substitutions. -/
import Derived.Test.YtciohamonmmciaaVs
import Derived.Test.YtciohamonmmciaaTake
import Derived.Deep.RegionHeld3
import Derived.Deep.RegionWith
import Derived.Outline
namespace Go.Proofs.Ytciohamonmmciaa
set_option linter.unusedVariables false
set_option maxRecDepth 100000
open Go.ChangeShapes Go.WideShapes Go.ChangeAt Go.RowKit

def SubP (l : List Sb) (k : Nat) (s : Sb) : Prop := 0 ≤ s.var ∧ s.var ≤ 9999 ∧ (∀ m, k = m + 1 → ∀ p, l[m]? = some p → p.var < s.var) ∧ tyOkB s.ty = true ∧ ∀ u ∈ l, u.var ∉ varsOf s.ty
def SubsU (l : List Sb) (k : Nat) : Prop := ∀ i s, i < k → l[i]? = some s → SubP l i s
def SubsP (l : List Sb) : Prop := ∀ i s, l[i]? = some s → SubP l i s
noncomputable def subsOkB (l : List Sb) : Bool := propB (SubsP l)
theorem SubsU.zero (l : List Sb) : SubsU l 0 := fun i s h => absurd h (by omega)
theorem SubsU.step {l : List Sb} {k : Nat} (h : SubsU l k) (hk : k < l.length) (hs : SubP l k l[k]) : SubsU l (k + 1) := by
  intro i s hi hg
  by_cases he : i = k
  · subst he
    rw [List.getElem?_eq_getElem hk] at hg
    cases hg
    exact hs
  · exact h i s (by omega) hg
theorem SubsU.all {l : List Sb} (h : SubsU l l.length) : SubsP l := fun i s hg => h i s (List.getElem?_eq_some_iff.1 hg).1 hg
theorem not_mem_var {l : List Sb} {j : Nat} {V : List Int} (hj : j < l.length) (h : ∀ u ∈ l.take j, u.var ∉ V) (hu : l[j].var ∉ V) : ∀ u ∈ l.take (j + 1), u.var ∉ V := by
  intro u hm
  rw [List.take_succ_eq_append_getElem hj, List.mem_append] at hm
  rcases hm with hm | hm
  · exact h u hm
  · rw [List.mem_singleton.1 hm]; exact hu
theorem sHas (l : List Int) (v : Value) (n : Int) (w : World) (hR : RowRd 1 IntEl w v l) :
    Calls Try.prog 48 #[v, .int .i64 n] w fun e w' => e = .returned (.bool (decide (n ∈ l))) ∧ Below w.heap.size w w' := by
  obtain ⟨p, cap, rfl, hm, hR⟩ := hR.form
  unfold maxLen at hm
  go_enter Try.func48, Try.ntmps48
  go_wp2
  go_loopw [9] (fun i wr => ∃ k : Nat, k ≤ l.length ∧ i = .int .i64 k ∧ n ∉ l.take k ∧ Below w.heap.size w wr) (fun i _ => l.length - (intOf i).toNat)
  case atStart => exact ⟨0, Nat.zero_le _, rfl, by simp, Below.refl _ _⟩
  case round =>
    obtain ⟨k, hk, rfl, hno, hbel⟩ := hrel
    by_cases hlt : k < l.length
    · obtain ⟨b, o, rfl, hbw, hc⟩ := hR (by omega)
      have ex := IntEl.st w wr b _ _ (Kept.of_below hbel) hbw (hc k hlt)
      have hnt := not_mem_take l n k hlt hno
      have hmem : l[k] ∈ l := List.getElem_mem hlt
      have HN := Lib.hid hnt
      have HM := Lib.hid hmem
      clear hc hR hno hnt hmem
      generalize l[k] = x at *
      obtain ⟨e0, i0⟩ := ex
      rw [Nat.mul_one] at e0
      by_cases he : x = n
      · have HE := Lib.hid he
        have h1 : (x == n) = true := by simpa using he
        clear he
        go_wp2
        go_ret
        exact ⟨ret_bool (by rw [← HE.out]; simp [HM.out]), hbel⟩
      · have HE := Lib.hid he
        have h1 : (x == n) = false := by simpa using he
        clear he
        go_wp2
        go_roundw
        case rel => exact ⟨k + 1, by omega, by go_num, HN.out HE.out, hbel⟩
        case measure => simp [intOf]; omega
    · obtain rfl : k = l.length := by omega
      rw [List.take_length] at hno
      have HN := Lib.hid hno
      clear hno
      go_wp2
      go_ret
      exact ⟨ret_bool (by simp [HN.out]), hbel⟩
set_option maxHeartbeats 4000000 in
theorem sSubsOkC (l : List Sb) (v : Value) (w : World) (hR : RowRd 2 SbEl w v l) (hz : bulkL bSb l ≤ 1048576) :
    Calls Try.prog 30 #[v] w fun e w' => e = .returned (.bool (subsOkB l)) ∧ Below w.heap.size w w' := by
  have hR0 := hR
  obtain ⟨p, cap, rfl, hm, hR⟩ := hR.form
  unfold maxLen at hm
  go_enter Try.func30, Try.ntmps30
  go_wp2
  go_loopw [9] (fun i wr => ∃ k : Nat, k ≤ l.length ∧ i = .int .i64 k ∧ SubsU l k ∧ Below w.heap.size w wr) (fun i _ => l.length - (intOf i).toNat)
  case atStart => exact ⟨0, Nat.zero_le _, rfl, SubsU.zero l, Below.refl _ _⟩
  case round =>
    obtain ⟨k, hk, rfl, hU, hbel⟩ := hrel
    generalize wr = wo at *
    by_cases hlt : k < l.length
    · obtain ⟨b, o, rfl, hbw, hc⟩ := hR (by omega)
      have ex := SbEl.st w wo b _ _ (Kept.of_below hbel) hbw (hc k hlt)
      have hbo : b < wo.heap.size := Nat.lt_of_lt_of_le hbw hbel.size
      have hzs : bTy l[k].ty ≤ 1048576 := by have := bulkL_mem bSb l k hlt; simp only [bSb] at this; omega
      have HP := Lib.hid (fun (h : SubsP l) => h k _ (List.getElem?_eq_getElem hlt))
      have HS := Lib.hid (fun h => hU.step hlt h)
      have hpv : ∀ m, k = m + 1 → wo.cell? ⟨b, o + m * 2, none⟩ = some (.int .i64 (l[m]?.map (·.var)).get!) ∧ ∃ p, l[m]? = some p := by
        intro m hm
        have hml : m < l.length := by omega
        rw [List.getElem?_eq_getElem hml]
        exact ⟨(SbEl.st w wo b _ _ (Kept.of_below hbel) hbw (hc m hml)).1.1, _, rfl⟩
      clear hc hU
      generalize l[k] = s at *
      obtain ⟨⟨e0, i0⟩, ⟨v1, e1, r1⟩⟩ := ex
      obtain ⟨p1, c1, rfl, m1, -⟩ := r1.form
      obtain ⟨O, hO⟩ : ∃ O, O = Obj.cells #[.int .i64 s.var, .slice p1 s.ty.length c1] 59 := ⟨_, rfl⟩
      have z0 : wo.heap.size < (wo.alloc O).heap.size := by simp
      have d0 : (wo.alloc O).cell? ⟨wo.heap.size, 0, none⟩ = some (.int .i64 s.var) := by rw [hO]; simp
      have d1 : (wo.alloc O).cell? ⟨wo.heap.size, 1, none⟩ = some (.slice p1 s.ty.length c1) := by rw [hO]; simp
      have bO : Below w.heap.size w (wo.alloc O) := hbel.trans ((Joins.below_alloc1 wo O).mono hbel.size)
      have rO := r1.kept TyIEl.st (Kept.alloc wo O)
      have hbb : b < (wo.alloc O).heap.size := by simp; omega
      have hpO : ∀ m, k = m + 1 → (wo.alloc O).cell? ⟨b, o + m * 2, none⟩ = some (.int .i64 (l[m]?.map (·.var)).get!) := fun m hm => ((Kept.alloc wo O).cell _ _ hbo).trans (hpv m hm).1
      -- HOLE BEGIN
      have HC := fun W (hB : Below (wo.alloc O).heap.size (wo.alloc O) W) => sTyOkC s.ty _ W (rO.kept TyIEl.st (Kept.of_below hB)) hzs
      by_cases ha : s.var < 0
      · have HF := Lib.hid (show ¬ SubsP l from fun h => by have := (HP.out h).1; omega)
        have ha1 : decide (s.var < 0) = true := by simpa using ha
        clear hpO HC
        go_wp2_with fail
        rw [← hO]
        clear hO
        generalize wo.alloc O = wb at *
        have hI := fun W (hB : Below wb.heap.size wb W) => (⟨(hB.cell (p := ⟨_, 0, none⟩) z0).trans d0, (hB.cell (p := ⟨_, 1, none⟩) z0).trans d1⟩ : W.cell? ⟨wo.heap.size, 0, none⟩ = some (.int .i64 s.var) ∧ W.cell? ⟨wo.heap.size, 1, none⟩ = some (.slice p1 s.ty.length c1))
        clear d0 d1
        refine region_begin (n := 29) (S := (fun W => Below wb.heap.size wb W ∧ (W.cell? ⟨wo.heap.size, 0, none⟩ = some (.int .i64 s.var) ∧ W.cell? ⟨wo.heap.size, 1, none⟩ = some (.slice p1 s.ty.length c1)))) (by kernel_rfl) rfl (by kernel_rfl) ⟨(Below.refl _ _).drew, hI _ (Below.refl _ _).drew⟩ (fun hHeld => ?_)
        refine take_next (i := 0) (v := ?_) [] (ts' := [0]) rfl (by kernel_rfl) (by kernel_rfl) (by kernel_rfl) (fun _ _ _ h => h) (.inl ⟨by rfl, ?_⟩) (by assumption) (by kernel_rfl) (d := 14) rfl (by simp only [Act.put, List.setIfInBounds_toArray, List.set_cons_zero, List.set_cons_succ]; rfl) ?_
        rotate_left
        · intro w' hSw
          try dsimp only at hSw
          go_split_ands
          go_simp
          try with_reducible rfl
        refine take_next (i := 1) (v := ?_) [0] (ts' := [0, 1]) rfl (by kernel_rfl) (by kernel_rfl) (by kernel_rfl) (fun _ _ _ h => h) (.inl ⟨by rfl, ?_⟩) (by assumption) (by kernel_rfl) (d := 15) rfl (by simp only [Act.put, List.setIfInBounds_toArray, List.set_cons_zero, List.set_cons_succ]; rfl) ?_
        rotate_left
        · intro w' hSw
          try dsimp only at hSw
          go_split_ands
          go_simp
          try with_reducible rfl
        refine take_next (i := 2) (v := ?_) [0, 1] (ts' := [0, 1, 2]) rfl (by kernel_rfl) (by kernel_rfl) (by kernel_rfl) (fun _ _ _ h => h) (.inl ⟨by rfl, ?_⟩) (by assumption) (by kernel_rfl) (d := 16) rfl (by simp only [Act.put, List.setIfInBounds_toArray, List.set_cons_zero, List.set_cons_succ]; rfl) ?_
        rotate_left
        · intro w' hSw
          try dsimp only at hSw
          go_split_ands
          go_simp
          try with_reducible rfl
        refine take_next (i := 3) (v := ?_) [0, 1, 2] (ts' := [0, 1, 2, 3]) rfl (by kernel_rfl) (by kernel_rfl) (by kernel_rfl) (fun _ _ _ h => h) (.inl ⟨by rfl, ?_⟩) (by assumption) (by kernel_rfl) (d := 17) rfl (by simp only [Act.put, List.setIfInBounds_toArray, List.set_cons_zero, List.set_cons_succ]; rfl) ?_
        rotate_left
        · intro w' hSw
          try dsimp only at hSw
          go_split_ands
          go_simp
          try with_reducible rfl
        refine take_next (i := 4) (v := _) [0, 1, 2, 3] (ts' := [0, 1, 2, 3, 4]) rfl (by kernel_rfl) (by kernel_rfl) (by kernel_rfl) (fun _ _ _ h => h) (.inr ⟨by rfl, rfl⟩) (by assumption) (by kernel_rfl) (d := 18) rfl (by simp only [Act.put, List.setIfInBounds_toArray, List.set_cons_zero, List.set_cons_succ]; rfl) ?_
        refine take_next (i := 5) (v := _) [0, 1, 2, 3, 4] (ts' := [0, 1, 2, 3, 4, 5]) rfl (by kernel_rfl) (by kernel_rfl) (by kernel_rfl) (fun _ _ _ h => h) (.inr ⟨by rfl, rfl⟩) (by assumption) (by kernel_rfl) (d := 19) rfl (by simp only [Act.put, List.setIfInBounds_toArray, List.set_cons_zero, List.set_cons_succ]; rfl) ?_
        refine take_next (i := 6) (v := _) [0, 1, 2, 3, 4, 5] (ts' := [0, 1, 2, 3, 4, 5, 6]) rfl (by kernel_rfl) (by kernel_rfl) (by kernel_rfl) (fun _ _ _ h => h) (.inr ⟨by rfl, rfl⟩) (by assumption) (by kernel_rfl) (d := 20) rfl (by simp only [Act.put, List.setIfInBounds_toArray, List.set_cons_zero, List.set_cons_succ]; rfl) ?_
        refine take_next (i := 7) (v := ?_) [0, 1, 2, 3, 4, 5, 6] (ts' := [0, 1, 2, 3, 4, 5, 6, 7]) rfl (by kernel_rfl) (by kernel_rfl) (by kernel_rfl) (fun _ _ _ h => h) (.inl ⟨by rfl, ?_⟩) (by assumption) (by kernel_rfl) (d := 21) rfl (by simp only [Act.put, List.setIfInBounds_toArray, List.set_cons_zero, List.set_cons_succ]; rfl) ?_
        rotate_left
        · intro w' hSw
          try dsimp only at hSw
          go_split_ands
          go_simp
          try with_reducible rfl
        refine take_next (i := 8) (v := ?_) [0, 1, 2, 3, 4, 5, 6, 7] (ts' := [0, 1, 2, 3, 4, 5, 6, 7, 8]) rfl (by kernel_rfl) (by kernel_rfl) (by kernel_rfl) (fun _ _ _ h => h) (.inl ⟨by rfl, ?_⟩) (by assumption) (by kernel_rfl) (d := 22) rfl (by simp only [Act.put, List.setIfInBounds_toArray, List.set_cons_zero, List.set_cons_succ]; rfl) ?_
        rotate_left
        · intro w' hSw
          try dsimp only at hSw
          go_split_ands
          go_simp
          try with_reducible rfl
        refine take_next (i := 9) (v := _) [0, 1, 2, 3, 4, 5, 6, 7, 8] (ts' := [0, 1, 2, 3, 4, 5, 6, 7, 8, 9]) rfl (by kernel_rfl) (by kernel_rfl) (by kernel_rfl) (fun _ _ _ h => h) (.inr ⟨by rfl, rfl⟩) (by assumption) (by kernel_rfl) (d := 23) rfl (by simp only [Act.put, List.setIfInBounds_toArray, List.set_cons_zero, List.set_cons_succ]; rfl) ?_
        refine take_next (i := 10) (v := _) [0, 1, 2, 3, 4, 5, 6, 7, 8, 9] (ts' := [0, 1, 2, 3, 4, 5, 6, 7, 8, 9, 10]) rfl (by kernel_rfl) (by kernel_rfl) (by kernel_rfl) (fun _ _ _ h => h) (.inr ⟨by rfl, rfl⟩) (by assumption) (by kernel_rfl) (d := 24) rfl (by simp only [Act.put, List.setIfInBounds_toArray, List.set_cons_zero, List.set_cons_succ]; rfl) ?_
        refine take_next (i := 11) (v := _) [0, 1, 2, 3, 4, 5, 6, 7, 8, 9, 10] (ts' := [0, 1, 2, 3, 4, 5, 6, 7, 8, 9, 10, 11]) rfl (by kernel_rfl) (by kernel_rfl) (by kernel_rfl) (fun _ _ _ h => h) (.inr ⟨by rfl, rfl⟩) (by assumption) (by kernel_rfl) (d := 25) rfl (by simp only [Act.put, List.setIfInBounds_toArray, List.set_cons_zero, List.set_cons_succ]; rfl) ?_
        refine take_next (i := 12) (v := _) [0, 1, 2, 3, 4, 5, 6, 7, 8, 9, 10, 11] (ts' := [0, 1, 2, 3, 4, 5, 6, 7, 8, 9, 10, 11, 12]) rfl (by kernel_rfl) (by kernel_rfl) (by kernel_rfl) (fun _ _ _ h => h) (.inr ⟨by rfl, rfl⟩) (by assumption) (by kernel_rfl) (d := 26) rfl (by simp only [Act.put, List.setIfInBounds_toArray, List.set_cons_zero, List.set_cons_succ]; rfl) ?_
        refine take_next (i := 13) (v := _) [0, 1, 2, 3, 4, 5, 6, 7, 8, 9, 10, 11, 12] (ts' := [0, 1, 2, 3, 4, 5, 6, 7, 8, 9, 10, 11, 12, 13]) rfl (by kernel_rfl) (by kernel_rfl) (by kernel_rfl) (fun _ _ _ h => h) (.inr ⟨by rfl, rfl⟩) (by assumption) (by kernel_rfl) (d := 27) rfl (by simp only [Act.put, List.setIfInBounds_toArray, List.set_cons_zero, List.set_cons_succ]; rfl) ?_
        refine take_next (i := 14) (v := _) [0, 1, 2, 3, 4, 5, 6, 7, 8, 9, 10, 11, 12, 13] (ts' := [0, 1, 2, 3, 4, 5, 6, 7, 8, 9, 10, 11, 12, 13, 14]) rfl (by kernel_rfl) (by kernel_rfl) (by kernel_rfl) (fun _ _ _ h => h) (.inr ⟨by rfl, rfl⟩) (by assumption) (by kernel_rfl) (d := 28) rfl (by simp only [Act.put, List.setIfInBounds_toArray, List.set_cons_zero, List.set_cons_succ]; rfl) ?_
        refine take_next (i := 15) (v := _) [0, 1, 2, 3, 4, 5, 6, 7, 8, 9, 10, 11, 12, 13, 14] (ts' := [0, 1, 2, 3, 4, 5, 6, 7, 8, 9, 10, 11, 12, 13, 14, 15]) rfl (by kernel_rfl) (by kernel_rfl) (by kernel_rfl) (fun _ _ _ h => h) (.inr ⟨by rfl, rfl⟩) (by assumption) (by kernel_rfl) (d := 29) rfl (by simp only [Act.put, List.setIfInBounds_toArray, List.set_cons_zero, List.set_cons_succ]; rfl) ?_
        refine take_next (i := 16) (v := _) [0, 1, 2, 3, 4, 5, 6, 7, 8, 9, 10, 11, 12, 13, 14, 15] (ts' := [0, 1, 2, 3, 4, 5, 6, 7, 8, 9, 10, 11, 12, 13, 14, 15, 16]) rfl (by kernel_rfl) (by kernel_rfl) (by kernel_rfl) (fun _ _ _ h => h) (.inr ⟨by rfl, rfl⟩) (by assumption) (by kernel_rfl) (d := 30) rfl (by simp only [Act.put, List.setIfInBounds_toArray, List.set_cons_zero, List.set_cons_succ]; rfl) ?_
        refine take_next (i := 17) (v := _) [0, 1, 2, 3, 4, 5, 6, 7, 8, 9, 10, 11, 12, 13, 14, 15, 16] (ts' := [0, 1, 2, 3, 4, 5, 6, 7, 8, 9, 10, 11, 12, 13, 14, 15, 16, 17]) rfl (by kernel_rfl) (by kernel_rfl) (by kernel_rfl) (fun _ _ _ h => h) (.inr ⟨by rfl, rfl⟩) (by assumption) (by kernel_rfl) (d := 31) rfl (by simp only [Act.put, List.setIfInBounds_toArray, List.set_cons_zero, List.set_cons_succ]; rfl) ?_
        refine take_next (i := 18) (v := _) [0, 1, 2, 3, 4, 5, 6, 7, 8, 9, 10, 11, 12, 13, 14, 15, 16, 17] (ts' := [0, 1, 2, 3, 4, 5, 6, 7, 8, 9, 10, 11, 12, 13, 14, 15, 16, 17, 18]) rfl (by kernel_rfl) (by kernel_rfl) (by kernel_rfl) (fun _ _ _ h => h) (.inr ⟨by rfl, rfl⟩) (by assumption) (by kernel_rfl) (d := 32) rfl (by simp only [Act.put, List.setIfInBounds_toArray, List.set_cons_zero, List.set_cons_succ]; rfl) ?_
        refine take_next (i := 19) (v := _) [0, 1, 2, 3, 4, 5, 6, 7, 8, 9, 10, 11, 12, 13, 14, 15, 16, 17, 18] (ts' := [0, 1, 2, 3, 4, 5, 6, 7, 8, 9, 10, 11, 12, 13, 14, 15, 16, 17, 18, 19]) rfl (by kernel_rfl) (by kernel_rfl) (by kernel_rfl) (fun _ _ _ h => h) (.inr ⟨by rfl, rfl⟩) (by assumption) (by kernel_rfl) (d := 33) rfl (by simp only [Act.put, List.setIfInBounds_toArray, List.set_cons_zero, List.set_cons_succ]; rfl) ?_
        refine take_next (i := 20) (v := _) [0, 1, 2, 3, 4, 5, 6, 7, 8, 9, 10, 11, 12, 13, 14, 15, 16, 17, 18, 19] (ts' := [0, 1, 2, 3, 4, 5, 6, 7, 8, 9, 10, 11, 12, 13, 14, 15, 16, 17, 18, 19, 20]) rfl (by kernel_rfl) (by kernel_rfl) (by kernel_rfl) (fun _ _ _ h => h) (.inr ⟨by rfl, rfl⟩) (by assumption) (by kernel_rfl) (d := 34) rfl (by simp only [Act.put, List.setIfInBounds_toArray, List.set_cons_zero, List.set_cons_succ]; rfl) ?_
        refine take_next (i := 21) (v := _) [0, 1, 2, 3, 4, 5, 6, 7, 8, 9, 10, 11, 12, 13, 14, 15, 16, 17, 18, 19, 20] (ts' := [0, 1, 2, 3, 4, 5, 6, 7, 8, 9, 10, 11, 12, 13, 14, 15, 16, 17, 18, 19, 20, 21]) rfl (by kernel_rfl) (by kernel_rfl) (by kernel_rfl) (fun _ _ _ h => h) (.inr ⟨by rfl, rfl⟩) (by assumption) (by kernel_rfl) (d := 35) rfl (by simp only [Act.put, List.setIfInBounds_toArray, List.set_cons_zero, List.set_cons_succ]; rfl) ?_
        refine take_next (i := 22) (v := ?_) [0, 1, 2, 3, 4, 5, 6, 7, 8, 9, 10, 11, 12, 13, 14, 15, 16, 17, 18, 19, 20, 21] (ts' := [0, 1, 2, 3, 4, 5, 6, 7, 8, 9, 10, 11, 12, 13, 14, 15, 16, 17, 18, 19, 20, 21, 22]) rfl (by kernel_rfl) (by kernel_rfl) (by kernel_rfl) (fun _ _ _ h => h) (.inl ⟨by rfl, ?_⟩) (by assumption) (by kernel_rfl) (d := 36) rfl (by simp only [Act.put, List.setIfInBounds_toArray, List.set_cons_zero, List.set_cons_succ]; rfl) ?_
        rotate_left
        · intro w' hSw
          try dsimp only at hSw
          go_split_ands
          go_simp
          try with_reducible rfl
        refine take_next (i := 23) (v := ?_) [0, 1, 2, 3, 4, 5, 6, 7, 8, 9, 10, 11, 12, 13, 14, 15, 16, 17, 18, 19, 20, 21, 22] (ts' := [0, 1, 2, 3, 4, 5, 6, 7, 8, 9, 10, 11, 12, 13, 14, 15, 16, 17, 18, 19, 20, 21, 22, 23]) rfl (by kernel_rfl) (by kernel_rfl) (by kernel_rfl) (fun _ _ _ h => h) (.inl ⟨by rfl, ?_⟩) (by assumption) (by kernel_rfl) (d := 37) rfl (by simp only [Act.put, List.setIfInBounds_toArray, List.set_cons_zero, List.set_cons_succ]; rfl) ?_
        rotate_left
        · intro w' hSw
          try dsimp only at hSw
          go_split_ands
          go_simp
          try with_reducible rfl
        refine take_next (i := 24) (v := _) [0, 1, 2, 3, 4, 5, 6, 7, 8, 9, 10, 11, 12, 13, 14, 15, 16, 17, 18, 19, 20, 21, 22, 23] (ts' := [0, 1, 2, 3, 4, 5, 6, 7, 8, 9, 10, 11, 12, 13, 14, 15, 16, 17, 18, 19, 20, 21, 22, 23, 24]) rfl (by kernel_rfl) (by kernel_rfl) (by kernel_rfl) (fun _ _ _ h => h) (.inr ⟨by rfl, rfl⟩) (by assumption) (by kernel_rfl) (d := 38) rfl (by simp only [Act.put, List.setIfInBounds_toArray, List.set_cons_zero, List.set_cons_succ]; rfl) ?_
        refine take_next (i := 25) (v := _) [0, 1, 2, 3, 4, 5, 6, 7, 8, 9, 10, 11, 12, 13, 14, 15, 16, 17, 18, 19, 20, 21, 22, 23, 24] (ts' := [0, 1, 2, 3, 4, 5, 6, 7, 8, 9, 10, 11, 12, 13, 14, 15, 16, 17, 18, 19, 20, 21, 22, 23, 24, 25]) rfl (by kernel_rfl) (by kernel_rfl) (by kernel_rfl) (fun _ _ _ h => h) (.inr ⟨by rfl, rfl⟩) (by assumption) (by kernel_rfl) (d := 39) rfl (by simp only [Act.put, List.setIfInBounds_toArray, List.set_cons_zero, List.set_cons_succ]; rfl) ?_
        refine take_next (i := 26) (v := _) [0, 1, 2, 3, 4, 5, 6, 7, 8, 9, 10, 11, 12, 13, 14, 15, 16, 17, 18, 19, 20, 21, 22, 23, 24, 25] (ts' := [0, 1, 2, 3, 4, 5, 6, 7, 8, 9, 10, 11, 12, 13, 14, 15, 16, 17, 18, 19, 20, 21, 22, 23, 24, 25, 26]) rfl (by kernel_rfl) (by kernel_rfl) (by kernel_rfl) (fun _ _ _ h => h) (.inr ⟨by rfl, rfl⟩) (by assumption) (by kernel_rfl) (d := 40) rfl (by simp only [Act.put, List.setIfInBounds_toArray, List.set_cons_zero, List.set_cons_succ]; rfl) ?_
        refine take_next (i := 27) (v := _) [0, 1, 2, 3, 4, 5, 6, 7, 8, 9, 10, 11, 12, 13, 14, 15, 16, 17, 18, 19, 20, 21, 22, 23, 24, 25, 26] (ts' := [0, 1, 2, 3, 4, 5, 6, 7, 8, 9, 10, 11, 12, 13, 14, 15, 16, 17, 18, 19, 20, 21, 22, 23, 24, 25, 26, 27]) rfl (by kernel_rfl) (by kernel_rfl) (by kernel_rfl) (fun _ _ _ h => h) (.inr ⟨by rfl, rfl⟩) (by assumption) (by kernel_rfl) (d := 41) rfl (by simp only [Act.put, List.setIfInBounds_toArray, List.set_cons_zero, List.set_cons_succ]; rfl) ?_
        refine take_next (i := 28) (v := ?_) [0, 1, 2, 3, 4, 5, 6, 7, 8, 9, 10, 11, 12, 13, 14, 15, 16, 17, 18, 19, 20, 21, 22, 23, 24, 25, 26, 27] (ts' := [0, 1, 2, 3, 4, 5, 6, 7, 8, 9, 10, 11, 12, 13, 14, 15, 16, 17, 18, 19, 20, 21, 22, 23, 24, 25, 26, 27, 28]) rfl (by kernel_rfl) (by kernel_rfl) (by kernel_rfl) (fun _ _ _ h => h) (.inl ⟨by rfl, ?_⟩) (by assumption) (by kernel_rfl) (d := 42) rfl (by simp only [Act.put, List.setIfInBounds_toArray, List.set_cons_zero, List.set_cons_succ]; rfl) ?_
        rotate_left
        · intro w' hSw
          try dsimp only at hSw
          go_split_ands
          go_simp
          try with_reducible rfl
        refine wpAnyH_done (by kernel_rfl) ?_ _
        try dsimp only at hHeld
        go_wp2
        go_ret
        exact ⟨ret_bool (by rw [subsOkB, propB_f]; exact fun h => HF.out h), bO.trans (hHeld.1.mono bO.size)⟩
      have ha1 : decide (s.var < 0) = false := by simpa using ha
      by_cases hb : 9999 < s.var
      · have HF := Lib.hid (show ¬ SubsP l from fun h => by have := (HP.out h).2.1; omega)
        have hb1 : decide (9999 < s.var) = true := by simpa using hb
        clear hpO HC
        go_wp2_with fail
        rw [← hO]
        clear hO
        generalize wo.alloc O = wb at *
        have hI := fun W (hB : Below wb.heap.size wb W) => (⟨(hB.cell (p := ⟨_, 0, none⟩) z0).trans d0, (hB.cell (p := ⟨_, 1, none⟩) z0).trans d1⟩ : W.cell? ⟨wo.heap.size, 0, none⟩ = some (.int .i64 s.var) ∧ W.cell? ⟨wo.heap.size, 1, none⟩ = some (.slice p1 s.ty.length c1))
        clear d0 d1
        refine region_begin (n := 29) (S := (fun W => Below wb.heap.size wb W ∧ (W.cell? ⟨wo.heap.size, 0, none⟩ = some (.int .i64 s.var) ∧ W.cell? ⟨wo.heap.size, 1, none⟩ = some (.slice p1 s.ty.length c1)))) (by kernel_rfl) rfl (by kernel_rfl) ⟨(Below.refl _ _).drew, hI _ (Below.refl _ _).drew⟩ (fun hHeld => ?_)
        refine take_next (i := 0) (v := ?_) [] (ts' := [0]) rfl (by kernel_rfl) (by kernel_rfl) (by kernel_rfl) (fun _ _ _ h => h) (.inl ⟨by rfl, ?_⟩) (by assumption) (by kernel_rfl) (d := 14) rfl (by simp only [Act.put, List.setIfInBounds_toArray, List.set_cons_zero, List.set_cons_succ]; rfl) ?_
        rotate_left
        · intro w' hSw
          try dsimp only at hSw
          go_split_ands
          go_simp
          try with_reducible rfl
        refine take_next (i := 1) (v := ?_) [0] (ts' := [0, 1]) rfl (by kernel_rfl) (by kernel_rfl) (by kernel_rfl) (fun _ _ _ h => h) (.inl ⟨by rfl, ?_⟩) (by assumption) (by kernel_rfl) (d := 15) rfl (by simp only [Act.put, List.setIfInBounds_toArray, List.set_cons_zero, List.set_cons_succ]; rfl) ?_
        rotate_left
        · intro w' hSw
          try dsimp only at hSw
          go_split_ands
          go_simp
          try with_reducible rfl
        refine take_next (i := 2) (v := ?_) [0, 1] (ts' := [0, 1, 2]) rfl (by kernel_rfl) (by kernel_rfl) (by kernel_rfl) (fun _ _ _ h => h) (.inl ⟨by rfl, ?_⟩) (by assumption) (by kernel_rfl) (d := 16) rfl (by simp only [Act.put, List.setIfInBounds_toArray, List.set_cons_zero, List.set_cons_succ]; rfl) ?_
        rotate_left
        · intro w' hSw
          try dsimp only at hSw
          go_split_ands
          go_simp
          try with_reducible rfl
        refine take_next (i := 3) (v := ?_) [0, 1, 2] (ts' := [0, 1, 2, 3]) rfl (by kernel_rfl) (by kernel_rfl) (by kernel_rfl) (fun _ _ _ h => h) (.inl ⟨by rfl, ?_⟩) (by assumption) (by kernel_rfl) (d := 17) rfl (by simp only [Act.put, List.setIfInBounds_toArray, List.set_cons_zero, List.set_cons_succ]; rfl) ?_
        rotate_left
        · intro w' hSw
          try dsimp only at hSw
          go_split_ands
          go_simp
          try with_reducible rfl
        refine take_next (i := 4) (v := ?_) [0, 1, 2, 3] (ts' := [0, 1, 2, 3, 4]) rfl (by kernel_rfl) (by kernel_rfl) (by kernel_rfl) (fun _ _ _ h => h) (.inl ⟨by rfl, ?_⟩) (by assumption) (by kernel_rfl) (d := 18) rfl (by simp only [Act.put, List.setIfInBounds_toArray, List.set_cons_zero, List.set_cons_succ]; rfl) ?_
        rotate_left
        · intro w' hSw
          try dsimp only at hSw
          go_split_ands
          go_simp
          try with_reducible rfl
        refine take_next (i := 5) (v := ?_) [0, 1, 2, 3, 4] (ts' := [0, 1, 2, 3, 4, 5]) rfl (by kernel_rfl) (by kernel_rfl) (by kernel_rfl) (fun _ _ _ h => h) (.inl ⟨by rfl, ?_⟩) (by assumption) (by kernel_rfl) (d := 19) rfl (by simp only [Act.put, List.setIfInBounds_toArray, List.set_cons_zero, List.set_cons_succ]; rfl) ?_
        rotate_left
        · intro w' hSw
          try dsimp only at hSw
          go_split_ands
          go_simp
          try with_reducible rfl
        refine take_next (i := 6) (v := ?_) [0, 1, 2, 3, 4, 5] (ts' := [0, 1, 2, 3, 4, 5, 6]) rfl (by kernel_rfl) (by kernel_rfl) (by kernel_rfl) (fun _ _ _ h => h) (.inl ⟨by rfl, ?_⟩) (by assumption) (by kernel_rfl) (d := 20) rfl (by simp only [Act.put, List.setIfInBounds_toArray, List.set_cons_zero, List.set_cons_succ]; rfl) ?_
        rotate_left
        · intro w' hSw
          try dsimp only at hSw
          go_split_ands
          go_simp
          try with_reducible rfl
        refine take_next (i := 7) (v := ?_) [0, 1, 2, 3, 4, 5, 6] (ts' := [0, 1, 2, 3, 4, 5, 6, 7]) rfl (by kernel_rfl) (by kernel_rfl) (by kernel_rfl) (fun _ _ _ h => h) (.inl ⟨by rfl, ?_⟩) (by assumption) (by kernel_rfl) (d := 21) rfl (by simp only [Act.put, List.setIfInBounds_toArray, List.set_cons_zero, List.set_cons_succ]; rfl) ?_
        rotate_left
        · intro w' hSw
          try dsimp only at hSw
          go_split_ands
          go_simp
          try with_reducible rfl
        refine take_next (i := 8) (v := ?_) [0, 1, 2, 3, 4, 5, 6, 7] (ts' := [0, 1, 2, 3, 4, 5, 6, 7, 8]) rfl (by kernel_rfl) (by kernel_rfl) (by kernel_rfl) (fun _ _ _ h => h) (.inl ⟨by rfl, ?_⟩) (by assumption) (by kernel_rfl) (d := 22) rfl (by simp only [Act.put, List.setIfInBounds_toArray, List.set_cons_zero, List.set_cons_succ]; rfl) ?_
        rotate_left
        · intro w' hSw
          try dsimp only at hSw
          go_split_ands
          go_simp
          try with_reducible rfl
        refine take_next (i := 9) (v := _) [0, 1, 2, 3, 4, 5, 6, 7, 8] (ts' := [0, 1, 2, 3, 4, 5, 6, 7, 8, 9]) rfl (by kernel_rfl) (by kernel_rfl) (by kernel_rfl) (fun _ _ _ h => h) (.inr ⟨by rfl, rfl⟩) (by assumption) (by kernel_rfl) (d := 23) rfl (by simp only [Act.put, List.setIfInBounds_toArray, List.set_cons_zero, List.set_cons_succ]; rfl) ?_
        refine take_next (i := 10) (v := _) [0, 1, 2, 3, 4, 5, 6, 7, 8, 9] (ts' := [0, 1, 2, 3, 4, 5, 6, 7, 8, 9, 10]) rfl (by kernel_rfl) (by kernel_rfl) (by kernel_rfl) (fun _ _ _ h => h) (.inr ⟨by rfl, rfl⟩) (by assumption) (by kernel_rfl) (d := 24) rfl (by simp only [Act.put, List.setIfInBounds_toArray, List.set_cons_zero, List.set_cons_succ]; rfl) ?_
        refine take_next (i := 11) (v := _) [0, 1, 2, 3, 4, 5, 6, 7, 8, 9, 10] (ts' := [0, 1, 2, 3, 4, 5, 6, 7, 8, 9, 10, 11]) rfl (by kernel_rfl) (by kernel_rfl) (by kernel_rfl) (fun _ _ _ h => h) (.inr ⟨by rfl, rfl⟩) (by assumption) (by kernel_rfl) (d := 25) rfl (by simp only [Act.put, List.setIfInBounds_toArray, List.set_cons_zero, List.set_cons_succ]; rfl) ?_
        refine take_next (i := 12) (v := _) [0, 1, 2, 3, 4, 5, 6, 7, 8, 9, 10, 11] (ts' := [0, 1, 2, 3, 4, 5, 6, 7, 8, 9, 10, 11, 12]) rfl (by kernel_rfl) (by kernel_rfl) (by kernel_rfl) (fun _ _ _ h => h) (.inr ⟨by rfl, rfl⟩) (by assumption) (by kernel_rfl) (d := 26) rfl (by simp only [Act.put, List.setIfInBounds_toArray, List.set_cons_zero, List.set_cons_succ]; rfl) ?_
        refine take_next (i := 13) (v := _) [0, 1, 2, 3, 4, 5, 6, 7, 8, 9, 10, 11, 12] (ts' := [0, 1, 2, 3, 4, 5, 6, 7, 8, 9, 10, 11, 12, 13]) rfl (by kernel_rfl) (by kernel_rfl) (by kernel_rfl) (fun _ _ _ h => h) (.inr ⟨by rfl, rfl⟩) (by assumption) (by kernel_rfl) (d := 27) rfl (by simp only [Act.put, List.setIfInBounds_toArray, List.set_cons_zero, List.set_cons_succ]; rfl) ?_
        refine take_next (i := 14) (v := _) [0, 1, 2, 3, 4, 5, 6, 7, 8, 9, 10, 11, 12, 13] (ts' := [0, 1, 2, 3, 4, 5, 6, 7, 8, 9, 10, 11, 12, 13, 14]) rfl (by kernel_rfl) (by kernel_rfl) (by kernel_rfl) (fun _ _ _ h => h) (.inr ⟨by rfl, rfl⟩) (by assumption) (by kernel_rfl) (d := 28) rfl (by simp only [Act.put, List.setIfInBounds_toArray, List.set_cons_zero, List.set_cons_succ]; rfl) ?_
        refine take_next (i := 15) (v := _) [0, 1, 2, 3, 4, 5, 6, 7, 8, 9, 10, 11, 12, 13, 14] (ts' := [0, 1, 2, 3, 4, 5, 6, 7, 8, 9, 10, 11, 12, 13, 14, 15]) rfl (by kernel_rfl) (by kernel_rfl) (by kernel_rfl) (fun _ _ _ h => h) (.inr ⟨by rfl, rfl⟩) (by assumption) (by kernel_rfl) (d := 29) rfl (by simp only [Act.put, List.setIfInBounds_toArray, List.set_cons_zero, List.set_cons_succ]; rfl) ?_
        refine take_next (i := 16) (v := _) [0, 1, 2, 3, 4, 5, 6, 7, 8, 9, 10, 11, 12, 13, 14, 15] (ts' := [0, 1, 2, 3, 4, 5, 6, 7, 8, 9, 10, 11, 12, 13, 14, 15, 16]) rfl (by kernel_rfl) (by kernel_rfl) (by kernel_rfl) (fun _ _ _ h => h) (.inr ⟨by rfl, rfl⟩) (by assumption) (by kernel_rfl) (d := 30) rfl (by simp only [Act.put, List.setIfInBounds_toArray, List.set_cons_zero, List.set_cons_succ]; rfl) ?_
        refine take_next (i := 17) (v := _) [0, 1, 2, 3, 4, 5, 6, 7, 8, 9, 10, 11, 12, 13, 14, 15, 16] (ts' := [0, 1, 2, 3, 4, 5, 6, 7, 8, 9, 10, 11, 12, 13, 14, 15, 16, 17]) rfl (by kernel_rfl) (by kernel_rfl) (by kernel_rfl) (fun _ _ _ h => h) (.inr ⟨by rfl, rfl⟩) (by assumption) (by kernel_rfl) (d := 31) rfl (by simp only [Act.put, List.setIfInBounds_toArray, List.set_cons_zero, List.set_cons_succ]; rfl) ?_
        refine take_next (i := 18) (v := _) [0, 1, 2, 3, 4, 5, 6, 7, 8, 9, 10, 11, 12, 13, 14, 15, 16, 17] (ts' := [0, 1, 2, 3, 4, 5, 6, 7, 8, 9, 10, 11, 12, 13, 14, 15, 16, 17, 18]) rfl (by kernel_rfl) (by kernel_rfl) (by kernel_rfl) (fun _ _ _ h => h) (.inr ⟨by rfl, rfl⟩) (by assumption) (by kernel_rfl) (d := 32) rfl (by simp only [Act.put, List.setIfInBounds_toArray, List.set_cons_zero, List.set_cons_succ]; rfl) ?_
        refine take_next (i := 19) (v := _) [0, 1, 2, 3, 4, 5, 6, 7, 8, 9, 10, 11, 12, 13, 14, 15, 16, 17, 18] (ts' := [0, 1, 2, 3, 4, 5, 6, 7, 8, 9, 10, 11, 12, 13, 14, 15, 16, 17, 18, 19]) rfl (by kernel_rfl) (by kernel_rfl) (by kernel_rfl) (fun _ _ _ h => h) (.inr ⟨by rfl, rfl⟩) (by assumption) (by kernel_rfl) (d := 33) rfl (by simp only [Act.put, List.setIfInBounds_toArray, List.set_cons_zero, List.set_cons_succ]; rfl) ?_
        refine take_next (i := 20) (v := _) [0, 1, 2, 3, 4, 5, 6, 7, 8, 9, 10, 11, 12, 13, 14, 15, 16, 17, 18, 19] (ts' := [0, 1, 2, 3, 4, 5, 6, 7, 8, 9, 10, 11, 12, 13, 14, 15, 16, 17, 18, 19, 20]) rfl (by kernel_rfl) (by kernel_rfl) (by kernel_rfl) (fun _ _ _ h => h) (.inr ⟨by rfl, rfl⟩) (by assumption) (by kernel_rfl) (d := 34) rfl (by simp only [Act.put, List.setIfInBounds_toArray, List.set_cons_zero, List.set_cons_succ]; rfl) ?_
        refine take_next (i := 21) (v := _) [0, 1, 2, 3, 4, 5, 6, 7, 8, 9, 10, 11, 12, 13, 14, 15, 16, 17, 18, 19, 20] (ts' := [0, 1, 2, 3, 4, 5, 6, 7, 8, 9, 10, 11, 12, 13, 14, 15, 16, 17, 18, 19, 20, 21]) rfl (by kernel_rfl) (by kernel_rfl) (by kernel_rfl) (fun _ _ _ h => h) (.inr ⟨by rfl, rfl⟩) (by assumption) (by kernel_rfl) (d := 35) rfl (by simp only [Act.put, List.setIfInBounds_toArray, List.set_cons_zero, List.set_cons_succ]; rfl) ?_
        refine take_next (i := 22) (v := ?_) [0, 1, 2, 3, 4, 5, 6, 7, 8, 9, 10, 11, 12, 13, 14, 15, 16, 17, 18, 19, 20, 21] (ts' := [0, 1, 2, 3, 4, 5, 6, 7, 8, 9, 10, 11, 12, 13, 14, 15, 16, 17, 18, 19, 20, 21, 22]) rfl (by kernel_rfl) (by kernel_rfl) (by kernel_rfl) (fun _ _ _ h => h) (.inl ⟨by rfl, ?_⟩) (by assumption) (by kernel_rfl) (d := 36) rfl (by simp only [Act.put, List.setIfInBounds_toArray, List.set_cons_zero, List.set_cons_succ]; rfl) ?_
        rotate_left
        · intro w' hSw
          try dsimp only at hSw
          go_split_ands
          go_simp
          try with_reducible rfl
        refine take_next (i := 23) (v := ?_) [0, 1, 2, 3, 4, 5, 6, 7, 8, 9, 10, 11, 12, 13, 14, 15, 16, 17, 18, 19, 20, 21, 22] (ts' := [0, 1, 2, 3, 4, 5, 6, 7, 8, 9, 10, 11, 12, 13, 14, 15, 16, 17, 18, 19, 20, 21, 22, 23]) rfl (by kernel_rfl) (by kernel_rfl) (by kernel_rfl) (fun _ _ _ h => h) (.inl ⟨by rfl, ?_⟩) (by assumption) (by kernel_rfl) (d := 37) rfl (by simp only [Act.put, List.setIfInBounds_toArray, List.set_cons_zero, List.set_cons_succ]; rfl) ?_
        rotate_left
        · intro w' hSw
          try dsimp only at hSw
          go_split_ands
          go_simp
          try with_reducible rfl
        refine take_next (i := 24) (v := _) [0, 1, 2, 3, 4, 5, 6, 7, 8, 9, 10, 11, 12, 13, 14, 15, 16, 17, 18, 19, 20, 21, 22, 23] (ts' := [0, 1, 2, 3, 4, 5, 6, 7, 8, 9, 10, 11, 12, 13, 14, 15, 16, 17, 18, 19, 20, 21, 22, 23, 24]) rfl (by kernel_rfl) (by kernel_rfl) (by kernel_rfl) (fun _ _ _ h => h) (.inr ⟨by rfl, rfl⟩) (by assumption) (by kernel_rfl) (d := 38) rfl (by simp only [Act.put, List.setIfInBounds_toArray, List.set_cons_zero, List.set_cons_succ]; rfl) ?_
        refine take_next (i := 25) (v := _) [0, 1, 2, 3, 4, 5, 6, 7, 8, 9, 10, 11, 12, 13, 14, 15, 16, 17, 18, 19, 20, 21, 22, 23, 24] (ts' := [0, 1, 2, 3, 4, 5, 6, 7, 8, 9, 10, 11, 12, 13, 14, 15, 16, 17, 18, 19, 20, 21, 22, 23, 24, 25]) rfl (by kernel_rfl) (by kernel_rfl) (by kernel_rfl) (fun _ _ _ h => h) (.inr ⟨by rfl, rfl⟩) (by assumption) (by kernel_rfl) (d := 39) rfl (by simp only [Act.put, List.setIfInBounds_toArray, List.set_cons_zero, List.set_cons_succ]; rfl) ?_
        refine take_next (i := 26) (v := _) [0, 1, 2, 3, 4, 5, 6, 7, 8, 9, 10, 11, 12, 13, 14, 15, 16, 17, 18, 19, 20, 21, 22, 23, 24, 25] (ts' := [0, 1, 2, 3, 4, 5, 6, 7, 8, 9, 10, 11, 12, 13, 14, 15, 16, 17, 18, 19, 20, 21, 22, 23, 24, 25, 26]) rfl (by kernel_rfl) (by kernel_rfl) (by kernel_rfl) (fun _ _ _ h => h) (.inr ⟨by rfl, rfl⟩) (by assumption) (by kernel_rfl) (d := 40) rfl (by simp only [Act.put, List.setIfInBounds_toArray, List.set_cons_zero, List.set_cons_succ]; rfl) ?_
        refine take_next (i := 27) (v := _) [0, 1, 2, 3, 4, 5, 6, 7, 8, 9, 10, 11, 12, 13, 14, 15, 16, 17, 18, 19, 20, 21, 22, 23, 24, 25, 26] (ts' := [0, 1, 2, 3, 4, 5, 6, 7, 8, 9, 10, 11, 12, 13, 14, 15, 16, 17, 18, 19, 20, 21, 22, 23, 24, 25, 26, 27]) rfl (by kernel_rfl) (by kernel_rfl) (by kernel_rfl) (fun _ _ _ h => h) (.inr ⟨by rfl, rfl⟩) (by assumption) (by kernel_rfl) (d := 41) rfl (by simp only [Act.put, List.setIfInBounds_toArray, List.set_cons_zero, List.set_cons_succ]; rfl) ?_
        refine take_next (i := 28) (v := ?_) [0, 1, 2, 3, 4, 5, 6, 7, 8, 9, 10, 11, 12, 13, 14, 15, 16, 17, 18, 19, 20, 21, 22, 23, 24, 25, 26, 27] (ts' := [0, 1, 2, 3, 4, 5, 6, 7, 8, 9, 10, 11, 12, 13, 14, 15, 16, 17, 18, 19, 20, 21, 22, 23, 24, 25, 26, 27, 28]) rfl (by kernel_rfl) (by kernel_rfl) (by kernel_rfl) (fun _ _ _ h => h) (.inl ⟨by rfl, ?_⟩) (by assumption) (by kernel_rfl) (d := 42) rfl (by simp only [Act.put, List.setIfInBounds_toArray, List.set_cons_zero, List.set_cons_succ]; rfl) ?_
        rotate_left
        · intro w' hSw
          try dsimp only at hSw
          go_split_ands
          go_simp
          try with_reducible rfl
        refine wpAnyH_done (by kernel_rfl) ?_ _
        try dsimp only at hHeld
        go_wp2
        go_ret
        exact ⟨ret_bool (by rw [subsOkB, propB_f]; exact fun h => HF.out h), bO.trans (hHeld.1.mono bO.size)⟩
      have hb1 : decide (9999 < s.var) = false := by simpa using hb
      rcases k with _ | m
      · clear hpO
        simp only [Nat.zero_mul, Nat.add_zero] at e0 e1
        cases hok : tyOkB s.ty
        · have HF := Lib.hid (show ¬ SubsP l from fun h => by have := (HP.out h).2.2.2.1; rw [hok] at this; cases this)
          rw [hok] at HC
          clear HP HS hok
          go_wp2_with fail
          rw [← hO]
          clear hO
          generalize wo.alloc O = wb at *
          have hI := fun W (hB : Below wb.heap.size wb W) => (⟨(hB.cell (p := ⟨_, 0, none⟩) z0).trans d0, (hB.cell (p := ⟨_, 1, none⟩) z0).trans d1⟩ : W.cell? ⟨wo.heap.size, 0, none⟩ = some (.int .i64 s.var) ∧ W.cell? ⟨wo.heap.size, 1, none⟩ = some (.slice p1 s.ty.length c1))
          clear d0 d1
          refine region_begin (n := 29) (S := (fun W => Below wb.heap.size wb W ∧ (W.cell? ⟨wo.heap.size, 0, none⟩ = some (.int .i64 s.var) ∧ W.cell? ⟨wo.heap.size, 1, none⟩ = some (.slice p1 s.ty.length c1)))) (by kernel_rfl) rfl (by kernel_rfl) ⟨(Below.refl _ _).drew, hI _ (Below.refl _ _).drew⟩ (fun hHeld => ?_)
          refine take_next (i := 0) (v := ?_) [] (ts' := [0]) rfl (by kernel_rfl) (by kernel_rfl) (by kernel_rfl) (fun _ _ _ h => h) (.inl ⟨by rfl, ?_⟩) (by assumption) (by kernel_rfl) (d := 14) rfl (by simp only [Act.put, List.setIfInBounds_toArray, List.set_cons_zero, List.set_cons_succ]; rfl) ?_
          rotate_left
          · intro w' hSw
            try dsimp only at hSw
            go_split_ands
            go_simp
            try with_reducible rfl
          refine take_next (i := 1) (v := ?_) [0] (ts' := [0, 1]) rfl (by kernel_rfl) (by kernel_rfl) (by kernel_rfl) (fun _ _ _ h => h) (.inl ⟨by rfl, ?_⟩) (by assumption) (by kernel_rfl) (d := 15) rfl (by simp only [Act.put, List.setIfInBounds_toArray, List.set_cons_zero, List.set_cons_succ]; rfl) ?_
          rotate_left
          · intro w' hSw
            try dsimp only at hSw
            go_split_ands
            go_simp
            try with_reducible rfl
          refine take_next (i := 2) (v := ?_) [0, 1] (ts' := [0, 1, 2]) rfl (by kernel_rfl) (by kernel_rfl) (by kernel_rfl) (fun _ _ _ h => h) (.inl ⟨by rfl, ?_⟩) (by assumption) (by kernel_rfl) (d := 16) rfl (by simp only [Act.put, List.setIfInBounds_toArray, List.set_cons_zero, List.set_cons_succ]; rfl) ?_
          rotate_left
          · intro w' hSw
            try dsimp only at hSw
            go_split_ands
            go_simp
            try with_reducible rfl
          refine take_next (i := 3) (v := ?_) [0, 1, 2] (ts' := [0, 1, 2, 3]) rfl (by kernel_rfl) (by kernel_rfl) (by kernel_rfl) (fun _ _ _ h => h) (.inl ⟨by rfl, ?_⟩) (by assumption) (by kernel_rfl) (d := 17) rfl (by simp only [Act.put, List.setIfInBounds_toArray, List.set_cons_zero, List.set_cons_succ]; rfl) ?_
          rotate_left
          · intro w' hSw
            try dsimp only at hSw
            go_split_ands
            go_simp
            try with_reducible rfl
          refine take_next (i := 4) (v := ?_) [0, 1, 2, 3] (ts' := [0, 1, 2, 3, 4]) rfl (by kernel_rfl) (by kernel_rfl) (by kernel_rfl) (fun _ _ _ h => h) (.inl ⟨by rfl, ?_⟩) (by assumption) (by kernel_rfl) (d := 18) rfl (by simp only [Act.put, List.setIfInBounds_toArray, List.set_cons_zero, List.set_cons_succ]; rfl) ?_
          rotate_left
          · intro w' hSw
            try dsimp only at hSw
            go_split_ands
            go_simp
            try with_reducible rfl
          refine take_next (i := 5) (v := ?_) [0, 1, 2, 3, 4] (ts' := [0, 1, 2, 3, 4, 5]) rfl (by kernel_rfl) (by kernel_rfl) (by kernel_rfl) (fun _ _ _ h => h) (.inl ⟨by rfl, ?_⟩) (by assumption) (by kernel_rfl) (d := 19) rfl (by simp only [Act.put, List.setIfInBounds_toArray, List.set_cons_zero, List.set_cons_succ]; rfl) ?_
          rotate_left
          · intro w' hSw
            try dsimp only at hSw
            go_split_ands
            go_simp
            try with_reducible rfl
          refine take_next (i := 6) (v := ?_) [0, 1, 2, 3, 4, 5] (ts' := [0, 1, 2, 3, 4, 5, 6]) rfl (by kernel_rfl) (by kernel_rfl) (by kernel_rfl) (fun _ _ _ h => h) (.inl ⟨by rfl, ?_⟩) (by assumption) (by kernel_rfl) (d := 20) rfl (by simp only [Act.put, List.setIfInBounds_toArray, List.set_cons_zero, List.set_cons_succ]; rfl) ?_
          rotate_left
          · intro w' hSw
            try dsimp only at hSw
            go_split_ands
            go_simp
            try with_reducible rfl
          refine take_next (i := 7) (v := ?_) [0, 1, 2, 3, 4, 5, 6] (ts' := [0, 1, 2, 3, 4, 5, 6, 7]) rfl (by kernel_rfl) (by kernel_rfl) (by kernel_rfl) (fun _ _ _ h => h) (.inl ⟨by rfl, ?_⟩) (by assumption) (by kernel_rfl) (d := 21) rfl (by simp only [Act.put, List.setIfInBounds_toArray, List.set_cons_zero, List.set_cons_succ]; rfl) ?_
          rotate_left
          · intro w' hSw
            try dsimp only at hSw
            go_split_ands
            go_simp
            try with_reducible rfl
          refine take_next (i := 8) (v := ?_) [0, 1, 2, 3, 4, 5, 6, 7] (ts' := [0, 1, 2, 3, 4, 5, 6, 7, 8]) rfl (by kernel_rfl) (by kernel_rfl) (by kernel_rfl) (fun _ _ _ h => h) (.inl ⟨by rfl, ?_⟩) (by assumption) (by kernel_rfl) (d := 22) rfl (by simp only [Act.put, List.setIfInBounds_toArray, List.set_cons_zero, List.set_cons_succ]; rfl) ?_
          rotate_left
          · intro w' hSw
            try dsimp only at hSw
            go_split_ands
            go_simp
            try with_reducible rfl
          refine take_next (i := 9) (v := ?_) [0, 1, 2, 3, 4, 5, 6, 7, 8] (ts' := [0, 1, 2, 3, 4, 5, 6, 7, 8, 9]) rfl (by kernel_rfl) (by kernel_rfl) (by kernel_rfl) (fun _ _ _ h => h) (.inl ⟨by rfl, ?_⟩) (by assumption) (by kernel_rfl) (d := 23) rfl (by simp only [Act.put, List.setIfInBounds_toArray, List.set_cons_zero, List.set_cons_succ]; rfl) ?_
          rotate_left
          · intro w' hSw
            try dsimp only at hSw
            go_split_ands
            go_simp
            try with_reducible rfl
          refine take_next (i := 10) (v := ?_) [0, 1, 2, 3, 4, 5, 6, 7, 8, 9] (ts' := [0, 1, 2, 3, 4, 5, 6, 7, 8, 9, 10]) rfl (by kernel_rfl) (by kernel_rfl) (by kernel_rfl) (fun _ _ _ h => h) (.inl ⟨by rfl, ?_⟩) (by assumption) (by kernel_rfl) (d := 24) rfl (by simp only [Act.put, List.setIfInBounds_toArray, List.set_cons_zero, List.set_cons_succ]; rfl) ?_
          rotate_left
          · intro w' hSw
            try dsimp only at hSw
            go_split_ands
            go_simp
            try with_reducible rfl
          refine take_next (i := 11) (v := ?_) [0, 1, 2, 3, 4, 5, 6, 7, 8, 9, 10] (ts' := [0, 1, 2, 3, 4, 5, 6, 7, 8, 9, 10, 11]) rfl (by kernel_rfl) (by kernel_rfl) (by kernel_rfl) (fun _ _ _ h => h) (.inl ⟨by rfl, ?_⟩) (by assumption) (by kernel_rfl) (d := 25) rfl (by simp only [Act.put, List.setIfInBounds_toArray, List.set_cons_zero, List.set_cons_succ]; rfl) ?_
          rotate_left
          · intro w' hSw
            try dsimp only at hSw
            go_split_ands
            go_simp
            try with_reducible rfl
          refine take_next (i := 12) (v := _) [0, 1, 2, 3, 4, 5, 6, 7, 8, 9, 10, 11] (ts' := [0, 1, 2, 3, 4, 5, 6, 7, 8, 9, 10, 11, 12]) rfl (by kernel_rfl) (by kernel_rfl) (by kernel_rfl) (fun _ _ _ h => h) (.inr ⟨by rfl, rfl⟩) (by assumption) (by kernel_rfl) (d := 26) rfl (by simp only [Act.put, List.setIfInBounds_toArray, List.set_cons_zero, List.set_cons_succ]; rfl) ?_
          refine take_next (i := 13) (v := _) [0, 1, 2, 3, 4, 5, 6, 7, 8, 9, 10, 11, 12] (ts' := [0, 1, 2, 3, 4, 5, 6, 7, 8, 9, 10, 11, 12, 13]) rfl (by kernel_rfl) (by kernel_rfl) (by kernel_rfl) (fun _ _ _ h => h) (.inr ⟨by rfl, rfl⟩) (by assumption) (by kernel_rfl) (d := 27) rfl (by simp only [Act.put, List.setIfInBounds_toArray, List.set_cons_zero, List.set_cons_succ]; rfl) ?_
          refine take_next (i := 14) (v := _) [0, 1, 2, 3, 4, 5, 6, 7, 8, 9, 10, 11, 12, 13] (ts' := [0, 1, 2, 3, 4, 5, 6, 7, 8, 9, 10, 11, 12, 13, 14]) rfl (by kernel_rfl) (by kernel_rfl) (by kernel_rfl) (fun _ _ _ h => h) (.inr ⟨by rfl, rfl⟩) (by assumption) (by kernel_rfl) (d := 28) rfl (by simp only [Act.put, List.setIfInBounds_toArray, List.set_cons_zero, List.set_cons_succ]; rfl) ?_
          refine take_next (i := 15) (v := _) [0, 1, 2, 3, 4, 5, 6, 7, 8, 9, 10, 11, 12, 13, 14] (ts' := [0, 1, 2, 3, 4, 5, 6, 7, 8, 9, 10, 11, 12, 13, 14, 15]) rfl (by kernel_rfl) (by kernel_rfl) (by kernel_rfl) (fun _ _ _ h => h) (.inr ⟨by rfl, rfl⟩) (by assumption) (by kernel_rfl) (d := 29) rfl (by simp only [Act.put, List.setIfInBounds_toArray, List.set_cons_zero, List.set_cons_succ]; rfl) ?_
          refine take_next (i := 16) (v := _) [0, 1, 2, 3, 4, 5, 6, 7, 8, 9, 10, 11, 12, 13, 14, 15] (ts' := [0, 1, 2, 3, 4, 5, 6, 7, 8, 9, 10, 11, 12, 13, 14, 15, 16]) rfl (by kernel_rfl) (by kernel_rfl) (by kernel_rfl) (fun _ _ _ h => h) (.inr ⟨by rfl, rfl⟩) (by assumption) (by kernel_rfl) (d := 30) rfl (by simp only [Act.put, List.setIfInBounds_toArray, List.set_cons_zero, List.set_cons_succ]; rfl) ?_
          refine take_next (i := 17) (v := _) [0, 1, 2, 3, 4, 5, 6, 7, 8, 9, 10, 11, 12, 13, 14, 15, 16] (ts' := [0, 1, 2, 3, 4, 5, 6, 7, 8, 9, 10, 11, 12, 13, 14, 15, 16, 17]) rfl (by kernel_rfl) (by kernel_rfl) (by kernel_rfl) (fun _ _ _ h => h) (.inr ⟨by rfl, rfl⟩) (by assumption) (by kernel_rfl) (d := 31) rfl (by simp only [Act.put, List.setIfInBounds_toArray, List.set_cons_zero, List.set_cons_succ]; rfl) ?_
          refine take_next (i := 18) (v := _) [0, 1, 2, 3, 4, 5, 6, 7, 8, 9, 10, 11, 12, 13, 14, 15, 16, 17] (ts' := [0, 1, 2, 3, 4, 5, 6, 7, 8, 9, 10, 11, 12, 13, 14, 15, 16, 17, 18]) rfl (by kernel_rfl) (by kernel_rfl) (by kernel_rfl) (fun _ _ _ h => h) (.inr ⟨by rfl, rfl⟩) (by assumption) (by kernel_rfl) (d := 32) rfl (by simp only [Act.put, List.setIfInBounds_toArray, List.set_cons_zero, List.set_cons_succ]; rfl) ?_
          refine take_next (i := 19) (v := _) [0, 1, 2, 3, 4, 5, 6, 7, 8, 9, 10, 11, 12, 13, 14, 15, 16, 17, 18] (ts' := [0, 1, 2, 3, 4, 5, 6, 7, 8, 9, 10, 11, 12, 13, 14, 15, 16, 17, 18, 19]) rfl (by kernel_rfl) (by kernel_rfl) (by kernel_rfl) (fun _ _ _ h => h) (.inr ⟨by rfl, rfl⟩) (by assumption) (by kernel_rfl) (d := 33) rfl (by simp only [Act.put, List.setIfInBounds_toArray, List.set_cons_zero, List.set_cons_succ]; rfl) ?_
          refine take_next (i := 20) (v := _) [0, 1, 2, 3, 4, 5, 6, 7, 8, 9, 10, 11, 12, 13, 14, 15, 16, 17, 18, 19] (ts' := [0, 1, 2, 3, 4, 5, 6, 7, 8, 9, 10, 11, 12, 13, 14, 15, 16, 17, 18, 19, 20]) rfl (by kernel_rfl) (by kernel_rfl) (by kernel_rfl) (fun _ _ _ h => h) (.inr ⟨by rfl, rfl⟩) (by assumption) (by kernel_rfl) (d := 34) rfl (by simp only [Act.put, List.setIfInBounds_toArray, List.set_cons_zero, List.set_cons_succ]; rfl) ?_
          refine take_next (i := 21) (v := ?_) [0, 1, 2, 3, 4, 5, 6, 7, 8, 9, 10, 11, 12, 13, 14, 15, 16, 17, 18, 19, 20] (ts' := [0, 1, 2, 3, 4, 5, 6, 7, 8, 9, 10, 11, 12, 13, 14, 15, 16, 17, 18, 19, 20, 21]) rfl (by kernel_rfl) (by kernel_rfl) (by kernel_rfl) (fun _ _ _ h => h) (.inl ⟨by rfl, ?_⟩) (by assumption) (by kernel_rfl) (d := 35) rfl (by simp only [Act.put, List.setIfInBounds_toArray, List.set_cons_zero, List.set_cons_succ]; rfl) ?_
          rotate_left
          · intro w' hSw
            try dsimp only at hSw
            go_split_ands
            go_simp
            try with_reducible rfl
          refine take_next (i := 22) (v := ?_) [0, 1, 2, 3, 4, 5, 6, 7, 8, 9, 10, 11, 12, 13, 14, 15, 16, 17, 18, 19, 20, 21] (ts' := [0, 1, 2, 3, 4, 5, 6, 7, 8, 9, 10, 11, 12, 13, 14, 15, 16, 17, 18, 19, 20, 21, 22]) rfl (by kernel_rfl) (by kernel_rfl) (by kernel_rfl) (fun _ _ _ h => h) (.inl ⟨by rfl, ?_⟩) (by assumption) (by kernel_rfl) (d := 36) rfl (by simp only [Act.put, List.setIfInBounds_toArray, List.set_cons_zero, List.set_cons_succ]; rfl) ?_
          rotate_left
          · intro w' hSw
            try dsimp only at hSw
            go_split_ands
            go_simp
            try with_reducible rfl
          refine take_next (i := 23) (v := ?_) [0, 1, 2, 3, 4, 5, 6, 7, 8, 9, 10, 11, 12, 13, 14, 15, 16, 17, 18, 19, 20, 21, 22] (ts' := [0, 1, 2, 3, 4, 5, 6, 7, 8, 9, 10, 11, 12, 13, 14, 15, 16, 17, 18, 19, 20, 21, 22, 23]) rfl (by kernel_rfl) (by kernel_rfl) (by kernel_rfl) (fun _ _ _ h => h) (.inl ⟨by rfl, ?_⟩) (by assumption) (by kernel_rfl) (d := 37) rfl (by simp only [Act.put, List.setIfInBounds_toArray, List.set_cons_zero, List.set_cons_succ]; rfl) ?_
          rotate_left
          · intro w' hSw
            try dsimp only at hSw
            go_split_ands
            go_simp
            try with_reducible rfl
          refine take_next (i := 24) (v := ?_) [0, 1, 2, 3, 4, 5, 6, 7, 8, 9, 10, 11, 12, 13, 14, 15, 16, 17, 18, 19, 20, 21, 22, 23] (ts' := [0, 1, 2, 3, 4, 5, 6, 7, 8, 9, 10, 11, 12, 13, 14, 15, 16, 17, 18, 19, 20, 21, 22, 23, 24]) rfl (by kernel_rfl) (by kernel_rfl) (by kernel_rfl) (fun _ _ _ h => h) (.inl ⟨by rfl, ?_⟩) (by assumption) (by kernel_rfl) (d := 38) rfl (by simp only [Act.put, List.setIfInBounds_toArray, List.set_cons_zero, List.set_cons_succ]; rfl) ?_
          rotate_left
          · intro w' hSw
            try dsimp only at hSw
            go_split_ands
            go_simp
            try with_reducible rfl
          refine take_next (i := 25) (v := ?_) [0, 1, 2, 3, 4, 5, 6, 7, 8, 9, 10, 11, 12, 13, 14, 15, 16, 17, 18, 19, 20, 21, 22, 23, 24] (ts' := [0, 1, 2, 3, 4, 5, 6, 7, 8, 9, 10, 11, 12, 13, 14, 15, 16, 17, 18, 19, 20, 21, 22, 23, 24, 25]) rfl (by kernel_rfl) (by kernel_rfl) (by kernel_rfl) (fun _ _ _ h => h) (.inl ⟨by rfl, ?_⟩) (by assumption) (by kernel_rfl) (d := 39) rfl (by simp only [Act.put, List.setIfInBounds_toArray, List.set_cons_zero, List.set_cons_succ]; rfl) ?_
          rotate_left
          · intro w' hSw
            try dsimp only at hSw
            go_split_ands
            go_simp
            try with_reducible rfl
          refine wpAnyH_ready (rs := [26]) (by kernel_rfl) (by simp) ?_
          refine AllReadyH.cons (o := _) rfl (fun K hK => ?_) AllReadyH.nil
          go_simp
          refine (HC _ hHeld.1).mono ?_
          rintro e w26 ⟨rfl, hb26⟩
          dsimp only
          refine hK.out _ _ ⟨below_tr hHeld.1 hb26, hI _ (below_tr hHeld.1 hb26)⟩ (fun hHeld => ?_)
          clear hK K
          refine mask_is (n := 29) [0, 1, 2, 3, 4, 5, 6, 7, 8, 9, 10, 11, 12, 13, 14, 15, 16, 17, 18, 19, 20, 21, 22, 23, 24, 25, 26] (by kernel_rfl) ?_
          refine take_next (i := 27) (v := ?_) [0, 1, 2, 3, 4, 5, 6, 7, 8, 9, 10, 11, 12, 13, 14, 15, 16, 17, 18, 19, 20, 21, 22, 23, 24, 25, 26] (ts' := [0, 1, 2, 3, 4, 5, 6, 7, 8, 9, 10, 11, 12, 13, 14, 15, 16, 17, 18, 19, 20, 21, 22, 23, 24, 25, 26, 27]) rfl (by kernel_rfl) (by kernel_rfl) (by kernel_rfl) (fun _ _ _ h => h) (.inl ⟨by rfl, ?_⟩) (by assumption) (by kernel_rfl) (d := 41) rfl (by simp only [Act.put, List.setIfInBounds_toArray, List.set_cons_zero, List.set_cons_succ]; rfl) ?_
          rotate_left
          · intro w' hSw
            try dsimp only at hSw
            go_split_ands
            go_simp
            try with_reducible rfl
          refine take_next (i := 28) (v := ?_) [0, 1, 2, 3, 4, 5, 6, 7, 8, 9, 10, 11, 12, 13, 14, 15, 16, 17, 18, 19, 20, 21, 22, 23, 24, 25, 26, 27] (ts' := [0, 1, 2, 3, 4, 5, 6, 7, 8, 9, 10, 11, 12, 13, 14, 15, 16, 17, 18, 19, 20, 21, 22, 23, 24, 25, 26, 27, 28]) rfl (by kernel_rfl) (by kernel_rfl) (by kernel_rfl) (fun _ _ _ h => h) (.inl ⟨by rfl, ?_⟩) (by assumption) (by kernel_rfl) (d := 42) rfl (by simp only [Act.put, List.setIfInBounds_toArray, List.set_cons_zero, List.set_cons_succ]; rfl) ?_
          rotate_left
          · intro w' hSw
            try dsimp only at hSw
            go_split_ands
            go_simp
            try with_reducible rfl
          refine wpAnyH_done (by kernel_rfl) ?_ _
          try dsimp only at hHeld
          go_wp2
          go_ret
          exact ⟨ret_bool (by rw [subsOkB, propB_f]; exact fun h => HF.out h), bO.trans (hHeld.1.mono bO.size)⟩
        · rw [hok] at HC
          have HNo := Lib.hid (fun u (hu : u ∈ l) (hv : u.var ∈ varsOf s.ty) (h : SubsP l) => (HP.out h).2.2.2.2 u hu hv)
          have HS := Lib.hid (fun (h : ∀ u ∈ l, u.var ∉ varsOf s.ty) => HS.out ⟨by omega, by omega, fun m hm => by omega, hok, h⟩)
          clear HP hok
          go_wp2_with fail
          rw [← hO]
          clear hO
          generalize wo.alloc O = wb at *
          have hI := fun W (hB : Below wb.heap.size wb W) => (⟨(hB.cell (p := ⟨_, 0, none⟩) z0).trans d0, (hB.cell (p := ⟨_, 1, none⟩) z0).trans d1⟩ : W.cell? ⟨wo.heap.size, 0, none⟩ = some (.int .i64 s.var) ∧ W.cell? ⟨wo.heap.size, 1, none⟩ = some (.slice p1 s.ty.length c1))
          clear d0 d1
          refine region_begin (n := 29) (S := (fun W => Below wb.heap.size wb W ∧ (W.cell? ⟨wo.heap.size, 0, none⟩ = some (.int .i64 s.var) ∧ W.cell? ⟨wo.heap.size, 1, none⟩ = some (.slice p1 s.ty.length c1)))) (by kernel_rfl) rfl (by kernel_rfl) ⟨(Below.refl _ _).drew, hI _ (Below.refl _ _).drew⟩ (fun hHeld => ?_)
          refine take_next (i := 0) (v := ?_) [] (ts' := [0]) rfl (by kernel_rfl) (by kernel_rfl) (by kernel_rfl) (fun _ _ _ h => h) (.inl ⟨by rfl, ?_⟩) (by assumption) (by kernel_rfl) (d := 14) rfl (by simp only [Act.put, List.setIfInBounds_toArray, List.set_cons_zero, List.set_cons_succ]; rfl) ?_
          rotate_left
          · intro w' hSw
            try dsimp only at hSw
            go_split_ands
            go_simp
            try with_reducible rfl
          refine take_next (i := 1) (v := ?_) [0] (ts' := [0, 1]) rfl (by kernel_rfl) (by kernel_rfl) (by kernel_rfl) (fun _ _ _ h => h) (.inl ⟨by rfl, ?_⟩) (by assumption) (by kernel_rfl) (d := 15) rfl (by simp only [Act.put, List.setIfInBounds_toArray, List.set_cons_zero, List.set_cons_succ]; rfl) ?_
          rotate_left
          · intro w' hSw
            try dsimp only at hSw
            go_split_ands
            go_simp
            try with_reducible rfl
          refine take_next (i := 2) (v := ?_) [0, 1] (ts' := [0, 1, 2]) rfl (by kernel_rfl) (by kernel_rfl) (by kernel_rfl) (fun _ _ _ h => h) (.inl ⟨by rfl, ?_⟩) (by assumption) (by kernel_rfl) (d := 16) rfl (by simp only [Act.put, List.setIfInBounds_toArray, List.set_cons_zero, List.set_cons_succ]; rfl) ?_
          rotate_left
          · intro w' hSw
            try dsimp only at hSw
            go_split_ands
            go_simp
            try with_reducible rfl
          refine take_next (i := 3) (v := ?_) [0, 1, 2] (ts' := [0, 1, 2, 3]) rfl (by kernel_rfl) (by kernel_rfl) (by kernel_rfl) (fun _ _ _ h => h) (.inl ⟨by rfl, ?_⟩) (by assumption) (by kernel_rfl) (d := 17) rfl (by simp only [Act.put, List.setIfInBounds_toArray, List.set_cons_zero, List.set_cons_succ]; rfl) ?_
          rotate_left
          · intro w' hSw
            try dsimp only at hSw
            go_split_ands
            go_simp
            try with_reducible rfl
          refine take_next (i := 4) (v := ?_) [0, 1, 2, 3] (ts' := [0, 1, 2, 3, 4]) rfl (by kernel_rfl) (by kernel_rfl) (by kernel_rfl) (fun _ _ _ h => h) (.inl ⟨by rfl, ?_⟩) (by assumption) (by kernel_rfl) (d := 18) rfl (by simp only [Act.put, List.setIfInBounds_toArray, List.set_cons_zero, List.set_cons_succ]; rfl) ?_
          rotate_left
          · intro w' hSw
            try dsimp only at hSw
            go_split_ands
            go_simp
            try with_reducible rfl
          refine take_next (i := 5) (v := ?_) [0, 1, 2, 3, 4] (ts' := [0, 1, 2, 3, 4, 5]) rfl (by kernel_rfl) (by kernel_rfl) (by kernel_rfl) (fun _ _ _ h => h) (.inl ⟨by rfl, ?_⟩) (by assumption) (by kernel_rfl) (d := 19) rfl (by simp only [Act.put, List.setIfInBounds_toArray, List.set_cons_zero, List.set_cons_succ]; rfl) ?_
          rotate_left
          · intro w' hSw
            try dsimp only at hSw
            go_split_ands
            go_simp
            try with_reducible rfl
          refine take_next (i := 6) (v := ?_) [0, 1, 2, 3, 4, 5] (ts' := [0, 1, 2, 3, 4, 5, 6]) rfl (by kernel_rfl) (by kernel_rfl) (by kernel_rfl) (fun _ _ _ h => h) (.inl ⟨by rfl, ?_⟩) (by assumption) (by kernel_rfl) (d := 20) rfl (by simp only [Act.put, List.setIfInBounds_toArray, List.set_cons_zero, List.set_cons_succ]; rfl) ?_
          rotate_left
          · intro w' hSw
            try dsimp only at hSw
            go_split_ands
            go_simp
            try with_reducible rfl
          refine take_next (i := 7) (v := ?_) [0, 1, 2, 3, 4, 5, 6] (ts' := [0, 1, 2, 3, 4, 5, 6, 7]) rfl (by kernel_rfl) (by kernel_rfl) (by kernel_rfl) (fun _ _ _ h => h) (.inl ⟨by rfl, ?_⟩) (by assumption) (by kernel_rfl) (d := 21) rfl (by simp only [Act.put, List.setIfInBounds_toArray, List.set_cons_zero, List.set_cons_succ]; rfl) ?_
          rotate_left
          · intro w' hSw
            try dsimp only at hSw
            go_split_ands
            go_simp
            try with_reducible rfl
          refine take_next (i := 8) (v := ?_) [0, 1, 2, 3, 4, 5, 6, 7] (ts' := [0, 1, 2, 3, 4, 5, 6, 7, 8]) rfl (by kernel_rfl) (by kernel_rfl) (by kernel_rfl) (fun _ _ _ h => h) (.inl ⟨by rfl, ?_⟩) (by assumption) (by kernel_rfl) (d := 22) rfl (by simp only [Act.put, List.setIfInBounds_toArray, List.set_cons_zero, List.set_cons_succ]; rfl) ?_
          rotate_left
          · intro w' hSw
            try dsimp only at hSw
            go_split_ands
            go_simp
            try with_reducible rfl
          refine take_next (i := 9) (v := ?_) [0, 1, 2, 3, 4, 5, 6, 7, 8] (ts' := [0, 1, 2, 3, 4, 5, 6, 7, 8, 9]) rfl (by kernel_rfl) (by kernel_rfl) (by kernel_rfl) (fun _ _ _ h => h) (.inl ⟨by rfl, ?_⟩) (by assumption) (by kernel_rfl) (d := 23) rfl (by simp only [Act.put, List.setIfInBounds_toArray, List.set_cons_zero, List.set_cons_succ]; rfl) ?_
          rotate_left
          · intro w' hSw
            try dsimp only at hSw
            go_split_ands
            go_simp
            try with_reducible rfl
          refine take_next (i := 10) (v := ?_) [0, 1, 2, 3, 4, 5, 6, 7, 8, 9] (ts' := [0, 1, 2, 3, 4, 5, 6, 7, 8, 9, 10]) rfl (by kernel_rfl) (by kernel_rfl) (by kernel_rfl) (fun _ _ _ h => h) (.inl ⟨by rfl, ?_⟩) (by assumption) (by kernel_rfl) (d := 24) rfl (by simp only [Act.put, List.setIfInBounds_toArray, List.set_cons_zero, List.set_cons_succ]; rfl) ?_
          rotate_left
          · intro w' hSw
            try dsimp only at hSw
            go_split_ands
            go_simp
            try with_reducible rfl
          refine take_next (i := 11) (v := ?_) [0, 1, 2, 3, 4, 5, 6, 7, 8, 9, 10] (ts' := [0, 1, 2, 3, 4, 5, 6, 7, 8, 9, 10, 11]) rfl (by kernel_rfl) (by kernel_rfl) (by kernel_rfl) (fun _ _ _ h => h) (.inl ⟨by rfl, ?_⟩) (by assumption) (by kernel_rfl) (d := 25) rfl (by simp only [Act.put, List.setIfInBounds_toArray, List.set_cons_zero, List.set_cons_succ]; rfl) ?_
          rotate_left
          · intro w' hSw
            try dsimp only at hSw
            go_split_ands
            go_simp
            try with_reducible rfl
          refine take_next (i := 12) (v := _) [0, 1, 2, 3, 4, 5, 6, 7, 8, 9, 10, 11] (ts' := [0, 1, 2, 3, 4, 5, 6, 7, 8, 9, 10, 11, 12]) rfl (by kernel_rfl) (by kernel_rfl) (by kernel_rfl) (fun _ _ _ h => h) (.inr ⟨by rfl, rfl⟩) (by assumption) (by kernel_rfl) (d := 26) rfl (by simp only [Act.put, List.setIfInBounds_toArray, List.set_cons_zero, List.set_cons_succ]; rfl) ?_
          refine take_next (i := 13) (v := _) [0, 1, 2, 3, 4, 5, 6, 7, 8, 9, 10, 11, 12] (ts' := [0, 1, 2, 3, 4, 5, 6, 7, 8, 9, 10, 11, 12, 13]) rfl (by kernel_rfl) (by kernel_rfl) (by kernel_rfl) (fun _ _ _ h => h) (.inr ⟨by rfl, rfl⟩) (by assumption) (by kernel_rfl) (d := 27) rfl (by simp only [Act.put, List.setIfInBounds_toArray, List.set_cons_zero, List.set_cons_succ]; rfl) ?_
          refine take_next (i := 14) (v := _) [0, 1, 2, 3, 4, 5, 6, 7, 8, 9, 10, 11, 12, 13] (ts' := [0, 1, 2, 3, 4, 5, 6, 7, 8, 9, 10, 11, 12, 13, 14]) rfl (by kernel_rfl) (by kernel_rfl) (by kernel_rfl) (fun _ _ _ h => h) (.inr ⟨by rfl, rfl⟩) (by assumption) (by kernel_rfl) (d := 28) rfl (by simp only [Act.put, List.setIfInBounds_toArray, List.set_cons_zero, List.set_cons_succ]; rfl) ?_
          refine take_next (i := 15) (v := _) [0, 1, 2, 3, 4, 5, 6, 7, 8, 9, 10, 11, 12, 13, 14] (ts' := [0, 1, 2, 3, 4, 5, 6, 7, 8, 9, 10, 11, 12, 13, 14, 15]) rfl (by kernel_rfl) (by kernel_rfl) (by kernel_rfl) (fun _ _ _ h => h) (.inr ⟨by rfl, rfl⟩) (by assumption) (by kernel_rfl) (d := 29) rfl (by simp only [Act.put, List.setIfInBounds_toArray, List.set_cons_zero, List.set_cons_succ]; rfl) ?_
          refine take_next (i := 16) (v := _) [0, 1, 2, 3, 4, 5, 6, 7, 8, 9, 10, 11, 12, 13, 14, 15] (ts' := [0, 1, 2, 3, 4, 5, 6, 7, 8, 9, 10, 11, 12, 13, 14, 15, 16]) rfl (by kernel_rfl) (by kernel_rfl) (by kernel_rfl) (fun _ _ _ h => h) (.inr ⟨by rfl, rfl⟩) (by assumption) (by kernel_rfl) (d := 30) rfl (by simp only [Act.put, List.setIfInBounds_toArray, List.set_cons_zero, List.set_cons_succ]; rfl) ?_
          refine take_next (i := 17) (v := _) [0, 1, 2, 3, 4, 5, 6, 7, 8, 9, 10, 11, 12, 13, 14, 15, 16] (ts' := [0, 1, 2, 3, 4, 5, 6, 7, 8, 9, 10, 11, 12, 13, 14, 15, 16, 17]) rfl (by kernel_rfl) (by kernel_rfl) (by kernel_rfl) (fun _ _ _ h => h) (.inr ⟨by rfl, rfl⟩) (by assumption) (by kernel_rfl) (d := 31) rfl (by simp only [Act.put, List.setIfInBounds_toArray, List.set_cons_zero, List.set_cons_succ]; rfl) ?_
          refine take_next (i := 18) (v := _) [0, 1, 2, 3, 4, 5, 6, 7, 8, 9, 10, 11, 12, 13, 14, 15, 16, 17] (ts' := [0, 1, 2, 3, 4, 5, 6, 7, 8, 9, 10, 11, 12, 13, 14, 15, 16, 17, 18]) rfl (by kernel_rfl) (by kernel_rfl) (by kernel_rfl) (fun _ _ _ h => h) (.inr ⟨by rfl, rfl⟩) (by assumption) (by kernel_rfl) (d := 32) rfl (by simp only [Act.put, List.setIfInBounds_toArray, List.set_cons_zero, List.set_cons_succ]; rfl) ?_
          refine take_next (i := 19) (v := _) [0, 1, 2, 3, 4, 5, 6, 7, 8, 9, 10, 11, 12, 13, 14, 15, 16, 17, 18] (ts' := [0, 1, 2, 3, 4, 5, 6, 7, 8, 9, 10, 11, 12, 13, 14, 15, 16, 17, 18, 19]) rfl (by kernel_rfl) (by kernel_rfl) (by kernel_rfl) (fun _ _ _ h => h) (.inr ⟨by rfl, rfl⟩) (by assumption) (by kernel_rfl) (d := 33) rfl (by simp only [Act.put, List.setIfInBounds_toArray, List.set_cons_zero, List.set_cons_succ]; rfl) ?_
          refine take_next (i := 20) (v := _) [0, 1, 2, 3, 4, 5, 6, 7, 8, 9, 10, 11, 12, 13, 14, 15, 16, 17, 18, 19] (ts' := [0, 1, 2, 3, 4, 5, 6, 7, 8, 9, 10, 11, 12, 13, 14, 15, 16, 17, 18, 19, 20]) rfl (by kernel_rfl) (by kernel_rfl) (by kernel_rfl) (fun _ _ _ h => h) (.inr ⟨by rfl, rfl⟩) (by assumption) (by kernel_rfl) (d := 34) rfl (by simp only [Act.put, List.setIfInBounds_toArray, List.set_cons_zero, List.set_cons_succ]; rfl) ?_
          refine take_next (i := 21) (v := ?_) [0, 1, 2, 3, 4, 5, 6, 7, 8, 9, 10, 11, 12, 13, 14, 15, 16, 17, 18, 19, 20] (ts' := [0, 1, 2, 3, 4, 5, 6, 7, 8, 9, 10, 11, 12, 13, 14, 15, 16, 17, 18, 19, 20, 21]) rfl (by kernel_rfl) (by kernel_rfl) (by kernel_rfl) (fun _ _ _ h => h) (.inl ⟨by rfl, ?_⟩) (by assumption) (by kernel_rfl) (d := 35) rfl (by simp only [Act.put, List.setIfInBounds_toArray, List.set_cons_zero, List.set_cons_succ]; rfl) ?_
          rotate_left
          · intro w' hSw
            try dsimp only at hSw
            go_split_ands
            go_simp
            try with_reducible rfl
          refine take_next (i := 22) (v := ?_) [0, 1, 2, 3, 4, 5, 6, 7, 8, 9, 10, 11, 12, 13, 14, 15, 16, 17, 18, 19, 20, 21] (ts' := [0, 1, 2, 3, 4, 5, 6, 7, 8, 9, 10, 11, 12, 13, 14, 15, 16, 17, 18, 19, 20, 21, 22]) rfl (by kernel_rfl) (by kernel_rfl) (by kernel_rfl) (fun _ _ _ h => h) (.inl ⟨by rfl, ?_⟩) (by assumption) (by kernel_rfl) (d := 36) rfl (by simp only [Act.put, List.setIfInBounds_toArray, List.set_cons_zero, List.set_cons_succ]; rfl) ?_
          rotate_left
          · intro w' hSw
            try dsimp only at hSw
            go_split_ands
            go_simp
            try with_reducible rfl
          refine take_next (i := 23) (v := ?_) [0, 1, 2, 3, 4, 5, 6, 7, 8, 9, 10, 11, 12, 13, 14, 15, 16, 17, 18, 19, 20, 21, 22] (ts' := [0, 1, 2, 3, 4, 5, 6, 7, 8, 9, 10, 11, 12, 13, 14, 15, 16, 17, 18, 19, 20, 21, 22, 23]) rfl (by kernel_rfl) (by kernel_rfl) (by kernel_rfl) (fun _ _ _ h => h) (.inl ⟨by rfl, ?_⟩) (by assumption) (by kernel_rfl) (d := 37) rfl (by simp only [Act.put, List.setIfInBounds_toArray, List.set_cons_zero, List.set_cons_succ]; rfl) ?_
          rotate_left
          · intro w' hSw
            try dsimp only at hSw
            go_split_ands
            go_simp
            try with_reducible rfl
          refine take_next (i := 24) (v := ?_) [0, 1, 2, 3, 4, 5, 6, 7, 8, 9, 10, 11, 12, 13, 14, 15, 16, 17, 18, 19, 20, 21, 22, 23] (ts' := [0, 1, 2, 3, 4, 5, 6, 7, 8, 9, 10, 11, 12, 13, 14, 15, 16, 17, 18, 19, 20, 21, 22, 23, 24]) rfl (by kernel_rfl) (by kernel_rfl) (by kernel_rfl) (fun _ _ _ h => h) (.inl ⟨by rfl, ?_⟩) (by assumption) (by kernel_rfl) (d := 38) rfl (by simp only [Act.put, List.setIfInBounds_toArray, List.set_cons_zero, List.set_cons_succ]; rfl) ?_
          rotate_left
          · intro w' hSw
            try dsimp only at hSw
            go_split_ands
            go_simp
            try with_reducible rfl
          refine take_next (i := 25) (v := ?_) [0, 1, 2, 3, 4, 5, 6, 7, 8, 9, 10, 11, 12, 13, 14, 15, 16, 17, 18, 19, 20, 21, 22, 23, 24] (ts' := [0, 1, 2, 3, 4, 5, 6, 7, 8, 9, 10, 11, 12, 13, 14, 15, 16, 17, 18, 19, 20, 21, 22, 23, 24, 25]) rfl (by kernel_rfl) (by kernel_rfl) (by kernel_rfl) (fun _ _ _ h => h) (.inl ⟨by rfl, ?_⟩) (by assumption) (by kernel_rfl) (d := 39) rfl (by simp only [Act.put, List.setIfInBounds_toArray, List.set_cons_zero, List.set_cons_succ]; rfl) ?_
          rotate_left
          · intro w' hSw
            try dsimp only at hSw
            go_split_ands
            go_simp
            try with_reducible rfl
          refine wpAnyH_ready (rs := [26]) (by kernel_rfl) (by simp) ?_
          refine AllReadyH.cons (o := _) rfl (fun K hK => ?_) AllReadyH.nil
          go_simp
          refine (HC _ hHeld.1).mono ?_
          rintro e w26 ⟨rfl, hb26⟩
          dsimp only
          refine hK.out _ _ ⟨below_tr hHeld.1 hb26, hI _ (below_tr hHeld.1 hb26)⟩ (fun hHeld => ?_)
          clear hK K
          refine mask_is (n := 29) [0, 1, 2, 3, 4, 5, 6, 7, 8, 9, 10, 11, 12, 13, 14, 15, 16, 17, 18, 19, 20, 21, 22, 23, 24, 25, 26] (by kernel_rfl) ?_
          refine take_next (i := 27) (v := ?_) [0, 1, 2, 3, 4, 5, 6, 7, 8, 9, 10, 11, 12, 13, 14, 15, 16, 17, 18, 19, 20, 21, 22, 23, 24, 25, 26] (ts' := [0, 1, 2, 3, 4, 5, 6, 7, 8, 9, 10, 11, 12, 13, 14, 15, 16, 17, 18, 19, 20, 21, 22, 23, 24, 25, 26, 27]) rfl (by kernel_rfl) (by kernel_rfl) (by kernel_rfl) (fun _ _ _ h => h) (.inl ⟨by rfl, ?_⟩) (by assumption) (by kernel_rfl) (d := 41) rfl (by simp only [Act.put, List.setIfInBounds_toArray, List.set_cons_zero, List.set_cons_succ]; rfl) ?_
          rotate_left
          · intro w' hSw
            try dsimp only at hSw
            go_split_ands
            go_simp
            try with_reducible rfl
          refine take_next (i := 28) (v := ?_) [0, 1, 2, 3, 4, 5, 6, 7, 8, 9, 10, 11, 12, 13, 14, 15, 16, 17, 18, 19, 20, 21, 22, 23, 24, 25, 26, 27] (ts' := [0, 1, 2, 3, 4, 5, 6, 7, 8, 9, 10, 11, 12, 13, 14, 15, 16, 17, 18, 19, 20, 21, 22, 23, 24, 25, 26, 27, 28]) rfl (by kernel_rfl) (by kernel_rfl) (by kernel_rfl) (fun _ _ _ h => h) (.inl ⟨by rfl, ?_⟩) (by assumption) (by kernel_rfl) (d := 42) rfl (by simp only [Act.put, List.setIfInBounds_toArray, List.set_cons_zero, List.set_cons_succ]; rfl) ?_
          rotate_left
          · intro w' hSw
            try dsimp only at hSw
            go_split_ands
            go_simp
            try with_reducible rfl
          refine wpAnyH_done (by kernel_rfl) ?_ _
          try dsimp only at hHeld
          obtain ⟨hBx, hCx⟩ := hHeld
          have cs1 := hCx.2
          have bB : Below w.heap.size w w26 := bO.trans (hBx.mono bO.size)
          have kB := Kept.of_below hBx
          have zs : wo.heap.size < w26.heap.size := Nat.lt_of_lt_of_le z0 hBx.size
          have kW : Kept w w26 := Kept.of_below bB
          have hlen : s.ty.length ≤ 1048576 := Nat.le_trans (bulkL_len _ _) hzs
          have hIV := resTyVars_i64 rO
          clear hI HC hCx hBx hb26 ha hb ha1 hb1
          go_wp2
          go_loopw [45] (fun i wr => ∃ j : Nat, j ≤ l.length ∧ i = .int .i64 j ∧ (∀ u ∈ l.take j, u.var ∉ varsOf s.ty) ∧ Below w26.heap.size w26 wr) (fun i _ => l.length - (intOf i).toNat)
          case atStart => exact ⟨0, Nat.zero_le _, rfl, by simp, Below.refl _ _⟩
          case round =>
            obtain ⟨j, hj, rfl, hno, hbj⟩ := hrel
            have kj : Kept w26 wr := Kept.of_below hbj
            by_cases hlj : j < l.length
            · have hRj := hR0.kept SbEl.st (kW.trans kj)
              obtain ⟨p', cap', eq1, _, h2⟩ := hRj.form
              cases eq1
              obtain ⟨b', o', eq2, _, h3⟩ := h2 (by omega)
              cases eq2
              have ex := h3 j hlj
              have HNV := Lib.hid (fun (h : l[j].var ∉ varsOf s.ty) => not_mem_var (V := varsOf s.ty) hlj hno h)
              have HBad := Lib.hid (fun (h : l[j].var ∈ varsOf s.ty) => HNo.out l[j] (List.getElem_mem hlj) h)
              clear h2 h3 hno hRj
              generalize l[j] = u at *
              obtain ⟨⟨f0, j0⟩, ⟨v2, f1, q1⟩⟩ := ex
              obtain ⟨p2, c2, rfl, _, -⟩ := q1.form
              have cs : wr.cell? ⟨wo.heap.size, 1, none⟩ = some (.slice p1 s.ty.length c1) := (kj.cell _ _ zs).trans cs1
              have zs1 : wo.heap.size < wr.heap.size := Nat.lt_of_lt_of_le zs kj.size
              obtain ⟨O2, hO2⟩ : ∃ O2, O2 = Obj.cells #[.int .i64 u.var, .slice p2 u.ty.length c2] 59 := ⟨_, rfl⟩
              have y0 : (wr.alloc O2).cell? ⟨wr.heap.size, 0, none⟩ = some (.int .i64 u.var) := by rw [hO2]; simp
              have y1 : (wr.alloc O2).cell? ⟨wo.heap.size, 1, none⟩ = some (.slice p1 s.ty.length c1) := ((Kept.alloc wr O2).cell _ _ zs1).trans cs
              have bj2 : Below w26.heap.size w26 (wr.alloc O2) := hbj.trans ((Joins.below_alloc1 wr O2).mono hbj.size)
              have zr : wr.heap.size < (wr.alloc O2).heap.size := by simp
              have zs2 : wo.heap.size < (wr.alloc O2).heap.size := Nat.lt_trans zs1 zr
              have hV := fun W (hK : Kept (wr.alloc O2) W) => Lib.hid (sVars s.ty _ W (rO.kept TyIEl.st (kB.trans (kj.trans ((Kept.alloc wr O2).trans hK)))) hlen)
              go_wp2_with fail
              rw [← hO2]
              clear hO2
              generalize wr.alloc O2 = wc at *
              have hI2 := fun W (hB : Below wc.heap.size wc W) => (⟨(hB.cell (p := ⟨_, 1, none⟩) zs2).trans y1, (hB.cell (p := ⟨_, 0, none⟩) zr).trans y0⟩ : W.cell? ⟨wo.heap.size, 1, none⟩ = some (.slice p1 s.ty.length c1) ∧ W.cell? ⟨wr.heap.size, 0, none⟩ = some (.int .i64 u.var))
              have HV := fun W (hB : Below wc.heap.size wc W) => (hV W (Kept.of_below hB)).out
              clear y0 y1 hV
              refine region_begin (n := 6) (S := (fun W => Below wc.heap.size wc W ∧ (W.cell? ⟨wo.heap.size, 1, none⟩ = some (.slice p1 s.ty.length c1) ∧ W.cell? ⟨wr.heap.size, 0, none⟩ = some (.int .i64 u.var)))) (by kernel_rfl) rfl (by kernel_rfl) ⟨(Below.refl _ _).drew, hI2 _ (Below.refl _ _).drew⟩ (fun hHeld => ?_)
              refine take_next (i := 0) (v := ?_) [] (ts' := [0]) rfl (by kernel_rfl) (by kernel_rfl) (by kernel_rfl) (fun _ _ _ h => h) (.inl ⟨by rfl, ?_⟩) (by assumption) (by kernel_rfl) (d := 49) rfl (by simp only [Act.put, List.setIfInBounds_toArray, List.set_cons_zero, List.set_cons_succ]; rfl) ?_
              rotate_left
              · intro w' hSw
                try dsimp only at hSw
                go_split_ands
                go_simp
                try with_reducible rfl
              refine take_next (i := 1) (v := ?_) [0] (ts' := [0, 1]) rfl (by kernel_rfl) (by kernel_rfl) (by kernel_rfl) (fun _ _ _ h => h) (.inl ⟨by rfl, ?_⟩) (by assumption) (by kernel_rfl) (d := 50) rfl (by simp only [Act.put, List.setIfInBounds_toArray, List.set_cons_zero, List.set_cons_succ]; rfl) ?_
              rotate_left
              · intro w' hSw
                try dsimp only at hSw
                go_split_ands
                go_simp
                try with_reducible rfl
              refine take_next (i := 3) (v := ?_) [0, 1] (ts' := [0, 1, 3]) rfl (by kernel_rfl) (by kernel_rfl) (by kernel_rfl) (fun _ _ _ h => h) (.inl ⟨by rfl, ?_⟩) (by assumption) (by kernel_rfl) (d := 52) rfl (by simp only [Act.put, List.setIfInBounds_toArray, List.set_cons_zero, List.set_cons_succ]; rfl) ?_
              rotate_left
              · intro w' hSw
                try dsimp only at hSw
                go_split_ands
                go_simp
                try with_reducible rfl
              refine take_next (i := 4) (v := ?_) [0, 1, 3] (ts' := [0, 1, 3, 4]) rfl (by kernel_rfl) (by kernel_rfl) (by kernel_rfl) (fun _ _ _ h => h) (.inl ⟨by rfl, ?_⟩) (by assumption) (by kernel_rfl) (d := 53) rfl (by simp only [Act.put, List.setIfInBounds_toArray, List.set_cons_zero, List.set_cons_succ]; rfl) ?_
              rotate_left
              · intro w' hSw
                try dsimp only at hSw
                go_split_ands
                go_simp
                try with_reducible rfl
              refine wpAnyH_ready (rs := [2]) (by kernel_rfl) (by simp) ?_
              refine AllReadyH.cons (o := _) rfl (fun K hK => ?_) AllReadyH.nil
              go_simp
              refine (HV _ hHeld.1).mono ?_
              rintro e w2 ⟨v', rfl, hown, hb2⟩
              dsimp only
              refine hK.out _ _ ⟨below_tr hHeld.1 hb2, hI2 _ (below_tr hHeld.1 hb2)⟩ (fun hHeld => ?_)
              clear hK K
              refine mask_is (n := 6) [0, 1, 3, 4, 2] (by kernel_rfl) ?_
              refine wpAnyH_ready (rs := [5]) (by kernel_rfl) (by simp) ?_
              refine AllReadyH.cons (o := _) rfl (fun K hK => ?_) AllReadyH.nil
              go_simp
              refine (sHas _ _ u.var _ (own_rdi hown hIV)).mono ?_
              rintro e w5 ⟨rfl, hb5⟩
              dsimp only
              refine hK.out _ _ ⟨below_tr hHeld.1 hb5, hI2 _ (below_tr hHeld.1 hb5)⟩ (fun hHeld => ?_)
              clear hK K
              refine mask_is (n := 6) [0, 1, 3, 4, 2, 5] (by kernel_rfl) ?_
              refine wpAnyH_done (by kernel_rfl) ?_ _
              try dsimp only at hHeld
              have bj3 := bj2.trans (hHeld.1.mono bj2.size)
              have HD := Lib.hid ((ascOf_asc (varsOf s.ty)).2 u.var)
              clear hown hb2 hb5 hHeld hI2 HV
              generalize hd : decide (u.var ∈ ascOf (varsOf s.ty)) = d at *
              cases d
              · have hnm : u.var ∉ varsOf s.ty := fun h => by simp [HD.out, h] at hd
                have HM := Lib.hid (HNV.out hnm)
                clear hd hnm
                go_wp2
                go_roundw
                case rel => exact ⟨j + 1, by omega, by go_num, HM.out, bj3⟩
                case measure => simp [intOf]; omega
              · have hmm : u.var ∈ varsOf s.ty := HD.out.1 (by simpa using hd)
                have HM := Lib.hid (HBad.out hmm)
                clear hd hmm
                go_wp2
                go_ret
                exact ⟨ret_bool (by rw [subsOkB, propB_f]; exact HM.out), bB.trans (bj3.mono bB.size)⟩
            · obtain rfl : j = l.length := by omega
              rw [List.take_length] at hno
              have HM := Lib.hid (HS.out hno)
              clear hno
              go_wp2
              go_roundw
              case rel => exact ⟨0 + 1, by omega, by go_num, HM.out, bB.trans (hbj.mono bB.size)⟩
              case measure => simp [intOf]; omega
      · obtain ⟨p, hp0⟩ := (hpv m rfl).2
        have hp := hpO m rfl
        rw [hp0] at hp
        simp only [Option.map_some, Option.get!_some] at hp
        have hm1 : (1 : Int) ≤ ((m + 1 : Nat) : Int) := by omega
        have hm2 : (0 : Int) < ((m + 1 : Nat) : Int) := by omega
        have hm3 : (m : Int) + 1 - 1 = (m : Int) := by omega
        have hwm : IntKind.i64.wrap (m : Int) = (m : Int) := IntWalk.i64_in _ (by omega)
        have hm6 : (1 : Int) ≤ (m : Int) + 1 := by omega
        have hm7 : decide ((0 : Int) < (m : Int) + 1) = true := decide_eq_true (by omega)
        have hm4 : (m : Int) < l.length := by omega
        have hm5 : m < l.length := by omega
        clear hpO hpv
        by_cases hc : s.var ≤ p.var
        · have HF := Lib.hid (show ¬ SubsP l from fun h => by have := (HP.out h).2.2.1 m rfl p hp0; omega)
          have hc1 : decide (s.var ≤ p.var) = true := by simpa using hc
          clear HP HS HC hp0
          go_wp2_with fail
          rw [← hO]
          clear hO
          generalize wo.alloc O = wb at *
          have hI := fun W (hB : Below wb.heap.size wb W) => (⟨(hB.cell (p := ⟨_, 0, none⟩) z0).trans d0, (hB.cell (p := ⟨_, 1, none⟩) z0).trans d1, (hB.cell (p := ⟨_, _, none⟩) hbb).trans hp⟩ : W.cell? ⟨wo.heap.size, 0, none⟩ = some (.int .i64 s.var) ∧ W.cell? ⟨wo.heap.size, 1, none⟩ = some (.slice p1 s.ty.length c1) ∧ W.cell? ⟨b, o + m * 2, none⟩ = some (.int .i64 p.var))
          clear d0 d1 hp
          refine region_begin (n := 29) (S := (fun W => Below wb.heap.size wb W ∧ (W.cell? ⟨wo.heap.size, 0, none⟩ = some (.int .i64 s.var) ∧ W.cell? ⟨wo.heap.size, 1, none⟩ = some (.slice p1 s.ty.length c1) ∧ W.cell? ⟨b, o + m * 2, none⟩ = some (.int .i64 p.var)))) (by kernel_rfl) rfl (by kernel_rfl) ⟨(Below.refl _ _).drew, hI _ (Below.refl _ _).drew⟩ (fun hHeld => ?_)
          refine take_next (i := 0) (v := ?_) [] (ts' := [0]) rfl (by kernel_rfl) (by kernel_rfl) (by kernel_rfl) (fun _ _ _ h => h) (.inl ⟨by rfl, ?_⟩) (by assumption) (by kernel_rfl) (d := 14) rfl (by simp only [Act.put, List.setIfInBounds_toArray, List.set_cons_zero, List.set_cons_succ]; rfl) ?_
          rotate_left
          · intro w' hSw
            try dsimp only at hSw
            go_split_ands
            go_simp
            try with_reducible rfl
          refine take_next (i := 1) (v := ?_) [0] (ts' := [0, 1]) rfl (by kernel_rfl) (by kernel_rfl) (by kernel_rfl) (fun _ _ _ h => h) (.inl ⟨by rfl, ?_⟩) (by assumption) (by kernel_rfl) (d := 15) rfl (by simp only [Act.put, List.setIfInBounds_toArray, List.set_cons_zero, List.set_cons_succ]; rfl) ?_
          rotate_left
          · intro w' hSw
            try dsimp only at hSw
            go_split_ands
            go_simp
            try with_reducible rfl
          refine take_next (i := 2) (v := ?_) [0, 1] (ts' := [0, 1, 2]) rfl (by kernel_rfl) (by kernel_rfl) (by kernel_rfl) (fun _ _ _ h => h) (.inl ⟨by rfl, ?_⟩) (by assumption) (by kernel_rfl) (d := 16) rfl (by simp only [Act.put, List.setIfInBounds_toArray, List.set_cons_zero, List.set_cons_succ]; rfl) ?_
          rotate_left
          · intro w' hSw
            try dsimp only at hSw
            go_split_ands
            go_simp
            try with_reducible rfl
          refine take_next (i := 3) (v := ?_) [0, 1, 2] (ts' := [0, 1, 2, 3]) rfl (by kernel_rfl) (by kernel_rfl) (by kernel_rfl) (fun _ _ _ h => h) (.inl ⟨by rfl, ?_⟩) (by assumption) (by kernel_rfl) (d := 17) rfl (by simp only [Act.put, List.setIfInBounds_toArray, List.set_cons_zero, List.set_cons_succ]; rfl) ?_
          rotate_left
          · intro w' hSw
            try dsimp only at hSw
            go_split_ands
            go_simp
            try with_reducible rfl
          refine take_next (i := 4) (v := ?_) [0, 1, 2, 3] (ts' := [0, 1, 2, 3, 4]) rfl (by kernel_rfl) (by kernel_rfl) (by kernel_rfl) (fun _ _ _ h => h) (.inl ⟨by rfl, ?_⟩) (by assumption) (by kernel_rfl) (d := 18) rfl (by simp only [Act.put, List.setIfInBounds_toArray, List.set_cons_zero, List.set_cons_succ]; rfl) ?_
          rotate_left
          · intro w' hSw
            try dsimp only at hSw
            go_split_ands
            go_simp
            try with_reducible rfl
          refine take_next (i := 5) (v := ?_) [0, 1, 2, 3, 4] (ts' := [0, 1, 2, 3, 4, 5]) rfl (by kernel_rfl) (by kernel_rfl) (by kernel_rfl) (fun _ _ _ h => h) (.inl ⟨by rfl, ?_⟩) (by assumption) (by kernel_rfl) (d := 19) rfl (by simp only [Act.put, List.setIfInBounds_toArray, List.set_cons_zero, List.set_cons_succ]; rfl) ?_
          rotate_left
          · intro w' hSw
            try dsimp only at hSw
            go_split_ands
            go_simp
            try with_reducible rfl
          refine take_next (i := 6) (v := ?_) [0, 1, 2, 3, 4, 5] (ts' := [0, 1, 2, 3, 4, 5, 6]) rfl (by kernel_rfl) (by kernel_rfl) (by kernel_rfl) (fun _ _ _ h => h) (.inl ⟨by rfl, ?_⟩) (by assumption) (by kernel_rfl) (d := 20) rfl (by simp only [Act.put, List.setIfInBounds_toArray, List.set_cons_zero, List.set_cons_succ]; rfl) ?_
          rotate_left
          · intro w' hSw
            try dsimp only at hSw
            go_split_ands
            go_simp
            try with_reducible rfl
          refine take_next (i := 7) (v := ?_) [0, 1, 2, 3, 4, 5, 6] (ts' := [0, 1, 2, 3, 4, 5, 6, 7]) rfl (by kernel_rfl) (by kernel_rfl) (by kernel_rfl) (fun _ _ _ h => h) (.inl ⟨by rfl, ?_⟩) (by assumption) (by kernel_rfl) (d := 21) rfl (by simp only [Act.put, List.setIfInBounds_toArray, List.set_cons_zero, List.set_cons_succ]; rfl) ?_
          rotate_left
          · intro w' hSw
            try dsimp only at hSw
            go_split_ands
            go_simp
            try with_reducible rfl
          refine take_next (i := 8) (v := ?_) [0, 1, 2, 3, 4, 5, 6, 7] (ts' := [0, 1, 2, 3, 4, 5, 6, 7, 8]) rfl (by kernel_rfl) (by kernel_rfl) (by kernel_rfl) (fun _ _ _ h => h) (.inl ⟨by rfl, ?_⟩) (by assumption) (by kernel_rfl) (d := 22) rfl (by simp only [Act.put, List.setIfInBounds_toArray, List.set_cons_zero, List.set_cons_succ]; rfl) ?_
          rotate_left
          · intro w' hSw
            try dsimp only at hSw
            go_split_ands
            go_simp
            try with_reducible rfl
          refine take_next (i := 9) (v := ?_) [0, 1, 2, 3, 4, 5, 6, 7, 8] (ts' := [0, 1, 2, 3, 4, 5, 6, 7, 8, 9]) rfl (by kernel_rfl) (by kernel_rfl) (by kernel_rfl) (fun _ _ _ h => h) (.inl ⟨by rfl, ?_⟩) (by assumption) (by kernel_rfl) (d := 23) rfl (by simp only [Act.put, List.setIfInBounds_toArray, List.set_cons_zero, List.set_cons_succ]; rfl) ?_
          rotate_left
          · intro w' hSw
            try dsimp only at hSw
            go_split_ands
            go_simp
            try with_reducible rfl
          refine take_next (i := 10) (v := ?_) [0, 1, 2, 3, 4, 5, 6, 7, 8, 9] (ts' := [0, 1, 2, 3, 4, 5, 6, 7, 8, 9, 10]) rfl (by kernel_rfl) (by kernel_rfl) (by kernel_rfl) (fun _ _ _ h => h) (.inl ⟨by rfl, ?_⟩) (by assumption) (by kernel_rfl) (d := 24) rfl (by simp only [Act.put, List.setIfInBounds_toArray, List.set_cons_zero, List.set_cons_succ]; rfl) ?_
          rotate_left
          · intro w' hSw
            try dsimp only at hSw
            go_split_ands
            go_simp
            try with_reducible rfl
          refine take_next (i := 11) (v := ?_) [0, 1, 2, 3, 4, 5, 6, 7, 8, 9, 10] (ts' := [0, 1, 2, 3, 4, 5, 6, 7, 8, 9, 10, 11]) rfl (by kernel_rfl) (by kernel_rfl) (by kernel_rfl) (fun _ _ _ h => h) (.inl ⟨by rfl, ?_⟩) (by assumption) (by kernel_rfl) (d := 25) rfl (by simp only [Act.put, List.setIfInBounds_toArray, List.set_cons_zero, List.set_cons_succ]; rfl) ?_
          rotate_left
          · intro w' hSw
            try dsimp only at hSw
            go_split_ands
            go_simp
            try with_reducible rfl
          refine take_next (i := 12) (v := ?_) [0, 1, 2, 3, 4, 5, 6, 7, 8, 9, 10, 11] (ts' := [0, 1, 2, 3, 4, 5, 6, 7, 8, 9, 10, 11, 12]) rfl (by kernel_rfl) (by kernel_rfl) (by kernel_rfl) (fun _ _ _ h => h) (.inl ⟨by rfl, ?_⟩) (by assumption) (by kernel_rfl) (d := 26) rfl (by simp only [Act.put, List.setIfInBounds_toArray, List.set_cons_zero, List.set_cons_succ]; rfl) ?_
          rotate_left
          · intro w' hSw
            try dsimp only at hSw
            go_split_ands
            go_simp
            try with_reducible rfl
          refine take_next (i := 13) (v := ?_) [0, 1, 2, 3, 4, 5, 6, 7, 8, 9, 10, 11, 12] (ts' := [0, 1, 2, 3, 4, 5, 6, 7, 8, 9, 10, 11, 12, 13]) rfl (by kernel_rfl) (by kernel_rfl) (by kernel_rfl) (fun _ _ _ h => h) (.inl ⟨by rfl, ?_⟩) (by assumption) (by kernel_rfl) (d := 27) rfl (by simp only [Act.put, List.setIfInBounds_toArray, List.set_cons_zero, List.set_cons_succ]; rfl) ?_
          rotate_left
          · intro w' hSw
            try dsimp only at hSw
            go_split_ands
            go_simp
            try with_reducible rfl
          refine take_next (i := 14) (v := ?_) [0, 1, 2, 3, 4, 5, 6, 7, 8, 9, 10, 11, 12, 13] (ts' := [0, 1, 2, 3, 4, 5, 6, 7, 8, 9, 10, 11, 12, 13, 14]) rfl (by kernel_rfl) (by kernel_rfl) (by kernel_rfl) (fun _ _ _ h => h) (.inl ⟨by rfl, ?_⟩) (by assumption) (by kernel_rfl) (d := 28) rfl (by simp only [Act.put, List.setIfInBounds_toArray, List.set_cons_zero, List.set_cons_succ]; rfl) ?_
          rotate_left
          · intro w' hSw
            try dsimp only at hSw
            go_split_ands
            go_simp
            try with_reducible rfl
          refine take_next (i := 15) (v := ?_) [0, 1, 2, 3, 4, 5, 6, 7, 8, 9, 10, 11, 12, 13, 14] (ts' := [0, 1, 2, 3, 4, 5, 6, 7, 8, 9, 10, 11, 12, 13, 14, 15]) rfl (by kernel_rfl) (by kernel_rfl) (by kernel_rfl) (fun _ _ _ h => h) (.inl ⟨by rfl, ?_⟩) (by assumption) (by kernel_rfl) (d := 29) rfl (by simp only [Act.put, List.setIfInBounds_toArray, List.set_cons_zero, List.set_cons_succ]; rfl) ?_
          rotate_left
          · intro w' hSw
            try dsimp only at hSw
            go_split_ands
            go_simp
            try with_reducible rfl
          refine take_next (i := 16) (v := ?_) [0, 1, 2, 3, 4, 5, 6, 7, 8, 9, 10, 11, 12, 13, 14, 15] (ts' := [0, 1, 2, 3, 4, 5, 6, 7, 8, 9, 10, 11, 12, 13, 14, 15, 16]) rfl (by kernel_rfl) (by kernel_rfl) (by kernel_rfl) (fun _ _ _ h => h) (.inl ⟨by rfl, ?_⟩) (by assumption) (by kernel_rfl) (d := 30) rfl (by simp only [Act.put, List.setIfInBounds_toArray, List.set_cons_zero, List.set_cons_succ]; rfl) ?_
          rotate_left
          · intro w' hSw
            try dsimp only at hSw
            go_split_ands
            go_simp
            try with_reducible rfl
          refine take_next (i := 17) (v := ?_) [0, 1, 2, 3, 4, 5, 6, 7, 8, 9, 10, 11, 12, 13, 14, 15, 16] (ts' := [0, 1, 2, 3, 4, 5, 6, 7, 8, 9, 10, 11, 12, 13, 14, 15, 16, 17]) rfl (by kernel_rfl) (by kernel_rfl) (by kernel_rfl) (fun _ _ _ h => h) (.inl ⟨by rfl, ?_⟩) (by assumption) (by kernel_rfl) (d := 31) rfl (by simp only [Act.put, List.setIfInBounds_toArray, List.set_cons_zero, List.set_cons_succ]; rfl) ?_
          rotate_left
          · intro w' hSw
            try dsimp only at hSw
            go_split_ands
            go_simp
            try with_reducible rfl
          refine take_next (i := 18) (v := ?_) [0, 1, 2, 3, 4, 5, 6, 7, 8, 9, 10, 11, 12, 13, 14, 15, 16, 17] (ts' := [0, 1, 2, 3, 4, 5, 6, 7, 8, 9, 10, 11, 12, 13, 14, 15, 16, 17, 18]) rfl (by kernel_rfl) (by kernel_rfl) (by kernel_rfl) (fun _ _ _ h => h) (.inl ⟨by rfl, ?_⟩) (by assumption) (by kernel_rfl) (d := 32) rfl (by simp only [Act.put, List.setIfInBounds_toArray, List.set_cons_zero, List.set_cons_succ]; rfl) ?_
          rotate_left
          · intro w' hSw
            try dsimp only at hSw
            go_split_ands
            go_simp
            try with_reducible rfl
          refine take_next (i := 19) (v := ?_) [0, 1, 2, 3, 4, 5, 6, 7, 8, 9, 10, 11, 12, 13, 14, 15, 16, 17, 18] (ts' := [0, 1, 2, 3, 4, 5, 6, 7, 8, 9, 10, 11, 12, 13, 14, 15, 16, 17, 18, 19]) rfl (by kernel_rfl) (by kernel_rfl) (by kernel_rfl) (fun _ _ _ h => h) (.inl ⟨by rfl, ?_⟩) (by assumption) (by kernel_rfl) (d := 33) rfl (by simp only [Act.put, List.setIfInBounds_toArray, List.set_cons_zero, List.set_cons_succ]; rfl) ?_
          rotate_left
          · intro w' hSw
            try dsimp only at hSw
            go_split_ands
            go_simp
            try with_reducible rfl
          refine take_next (i := 20) (v := ?_) [0, 1, 2, 3, 4, 5, 6, 7, 8, 9, 10, 11, 12, 13, 14, 15, 16, 17, 18, 19] (ts' := [0, 1, 2, 3, 4, 5, 6, 7, 8, 9, 10, 11, 12, 13, 14, 15, 16, 17, 18, 19, 20]) rfl (by kernel_rfl) (by kernel_rfl) (by kernel_rfl) (fun _ _ _ h => h) (.inl ⟨by rfl, ?_⟩) (by assumption) (by kernel_rfl) (d := 34) rfl (by simp only [Act.put, List.setIfInBounds_toArray, List.set_cons_zero, List.set_cons_succ]; rfl) ?_
          rotate_left
          · intro w' hSw
            try dsimp only at hSw
            go_split_ands
            go_simp
            try with_reducible rfl
          refine take_next (i := 21) (v := ?_) [0, 1, 2, 3, 4, 5, 6, 7, 8, 9, 10, 11, 12, 13, 14, 15, 16, 17, 18, 19, 20] (ts' := [0, 1, 2, 3, 4, 5, 6, 7, 8, 9, 10, 11, 12, 13, 14, 15, 16, 17, 18, 19, 20, 21]) rfl (by kernel_rfl) (by kernel_rfl) (by kernel_rfl) (fun _ _ _ h => h) (.inl ⟨by rfl, ?_⟩) (by assumption) (by kernel_rfl) (d := 35) rfl (by simp only [Act.put, List.setIfInBounds_toArray, List.set_cons_zero, List.set_cons_succ]; rfl) ?_
          rotate_left
          · intro w' hSw
            try dsimp only at hSw
            go_split_ands
            go_simp
            try with_reducible rfl
          refine take_next (i := 22) (v := ?_) [0, 1, 2, 3, 4, 5, 6, 7, 8, 9, 10, 11, 12, 13, 14, 15, 16, 17, 18, 19, 20, 21] (ts' := [0, 1, 2, 3, 4, 5, 6, 7, 8, 9, 10, 11, 12, 13, 14, 15, 16, 17, 18, 19, 20, 21, 22]) rfl (by kernel_rfl) (by kernel_rfl) (by kernel_rfl) (fun _ _ _ h => h) (.inl ⟨by rfl, ?_⟩) (by assumption) (by kernel_rfl) (d := 36) rfl (by simp only [Act.put, List.setIfInBounds_toArray, List.set_cons_zero, List.set_cons_succ]; rfl) ?_
          rotate_left
          · intro w' hSw
            try dsimp only at hSw
            go_split_ands
            go_simp
            try with_reducible rfl
          refine take_next (i := 23) (v := ?_) [0, 1, 2, 3, 4, 5, 6, 7, 8, 9, 10, 11, 12, 13, 14, 15, 16, 17, 18, 19, 20, 21, 22] (ts' := [0, 1, 2, 3, 4, 5, 6, 7, 8, 9, 10, 11, 12, 13, 14, 15, 16, 17, 18, 19, 20, 21, 22, 23]) rfl (by kernel_rfl) (by kernel_rfl) (by kernel_rfl) (fun _ _ _ h => h) (.inl ⟨by rfl, ?_⟩) (by assumption) (by kernel_rfl) (d := 37) rfl (by simp only [Act.put, List.setIfInBounds_toArray, List.set_cons_zero, List.set_cons_succ]; rfl) ?_
          rotate_left
          · intro w' hSw
            try dsimp only at hSw
            go_split_ands
            go_simp
            try with_reducible rfl
          refine take_next (i := 24) (v := _) [0, 1, 2, 3, 4, 5, 6, 7, 8, 9, 10, 11, 12, 13, 14, 15, 16, 17, 18, 19, 20, 21, 22, 23] (ts' := [0, 1, 2, 3, 4, 5, 6, 7, 8, 9, 10, 11, 12, 13, 14, 15, 16, 17, 18, 19, 20, 21, 22, 23, 24]) rfl (by kernel_rfl) (by kernel_rfl) (by kernel_rfl) (fun _ _ _ h => h) (.inr ⟨by rfl, rfl⟩) (by assumption) (by kernel_rfl) (d := 38) rfl (by simp only [Act.put, List.setIfInBounds_toArray, List.set_cons_zero, List.set_cons_succ]; rfl) ?_
          refine take_next (i := 25) (v := _) [0, 1, 2, 3, 4, 5, 6, 7, 8, 9, 10, 11, 12, 13, 14, 15, 16, 17, 18, 19, 20, 21, 22, 23, 24] (ts' := [0, 1, 2, 3, 4, 5, 6, 7, 8, 9, 10, 11, 12, 13, 14, 15, 16, 17, 18, 19, 20, 21, 22, 23, 24, 25]) rfl (by kernel_rfl) (by kernel_rfl) (by kernel_rfl) (fun _ _ _ h => h) (.inr ⟨by rfl, rfl⟩) (by assumption) (by kernel_rfl) (d := 39) rfl (by simp only [Act.put, List.setIfInBounds_toArray, List.set_cons_zero, List.set_cons_succ]; rfl) ?_
          refine take_next (i := 26) (v := _) [0, 1, 2, 3, 4, 5, 6, 7, 8, 9, 10, 11, 12, 13, 14, 15, 16, 17, 18, 19, 20, 21, 22, 23, 24, 25] (ts' := [0, 1, 2, 3, 4, 5, 6, 7, 8, 9, 10, 11, 12, 13, 14, 15, 16, 17, 18, 19, 20, 21, 22, 23, 24, 25, 26]) rfl (by kernel_rfl) (by kernel_rfl) (by kernel_rfl) (fun _ _ _ h => h) (.inr ⟨by rfl, rfl⟩) (by assumption) (by kernel_rfl) (d := 40) rfl (by simp only [Act.put, List.setIfInBounds_toArray, List.set_cons_zero, List.set_cons_succ]; rfl) ?_
          refine take_next (i := 27) (v := _) [0, 1, 2, 3, 4, 5, 6, 7, 8, 9, 10, 11, 12, 13, 14, 15, 16, 17, 18, 19, 20, 21, 22, 23, 24, 25, 26] (ts' := [0, 1, 2, 3, 4, 5, 6, 7, 8, 9, 10, 11, 12, 13, 14, 15, 16, 17, 18, 19, 20, 21, 22, 23, 24, 25, 26, 27]) rfl (by kernel_rfl) (by kernel_rfl) (by kernel_rfl) (fun _ _ _ h => h) (.inr ⟨by rfl, rfl⟩) (by assumption) (by kernel_rfl) (d := 41) rfl (by simp only [Act.put, List.setIfInBounds_toArray, List.set_cons_zero, List.set_cons_succ]; rfl) ?_
          refine take_next (i := 28) (v := ?_) [0, 1, 2, 3, 4, 5, 6, 7, 8, 9, 10, 11, 12, 13, 14, 15, 16, 17, 18, 19, 20, 21, 22, 23, 24, 25, 26, 27] (ts' := [0, 1, 2, 3, 4, 5, 6, 7, 8, 9, 10, 11, 12, 13, 14, 15, 16, 17, 18, 19, 20, 21, 22, 23, 24, 25, 26, 27, 28]) rfl (by kernel_rfl) (by kernel_rfl) (by kernel_rfl) (fun _ _ _ h => h) (.inl ⟨by rfl, ?_⟩) (by assumption) (by kernel_rfl) (d := 42) rfl (by simp only [Act.put, List.setIfInBounds_toArray, List.set_cons_zero, List.set_cons_succ]; rfl) ?_
          rotate_left
          · intro w' hSw
            try dsimp only at hSw
            go_split_ands
            go_simp
            try with_reducible rfl
          refine wpAnyH_done (by kernel_rfl) ?_ _
          try dsimp only at hHeld
          go_wp2
          go_ret
          exact ⟨ret_bool (by rw [subsOkB, propB_f]; exact fun h => HF.out h), bO.trans (hHeld.1.mono bO.size)⟩
        · have hc1 : decide (s.var ≤ p.var) = false := by simpa using hc
          cases hok : tyOkB s.ty
          · have HF := Lib.hid (show ¬ SubsP l from fun h => by have := (HP.out h).2.2.2.1; rw [hok] at this; cases this)
            rw [hok] at HC
            clear HP HS hok hp0
            go_wp2_with fail
            rw [← hO]
            clear hO
            generalize wo.alloc O = wb at *
            have hI := fun W (hB : Below wb.heap.size wb W) => (⟨(hB.cell (p := ⟨_, 0, none⟩) z0).trans d0, (hB.cell (p := ⟨_, 1, none⟩) z0).trans d1, (hB.cell (p := ⟨_, _, none⟩) hbb).trans hp⟩ : W.cell? ⟨wo.heap.size, 0, none⟩ = some (.int .i64 s.var) ∧ W.cell? ⟨wo.heap.size, 1, none⟩ = some (.slice p1 s.ty.length c1) ∧ W.cell? ⟨b, o + m * 2, none⟩ = some (.int .i64 p.var))
            clear d0 d1 hp
            refine region_begin (n := 29) (S := (fun W => Below wb.heap.size wb W ∧ (W.cell? ⟨wo.heap.size, 0, none⟩ = some (.int .i64 s.var) ∧ W.cell? ⟨wo.heap.size, 1, none⟩ = some (.slice p1 s.ty.length c1) ∧ W.cell? ⟨b, o + m * 2, none⟩ = some (.int .i64 p.var)))) (by kernel_rfl) rfl (by kernel_rfl) ⟨(Below.refl _ _).drew, hI _ (Below.refl _ _).drew⟩ (fun hHeld => ?_)
            refine take_next (i := 0) (v := ?_) [] (ts' := [0]) rfl (by kernel_rfl) (by kernel_rfl) (by kernel_rfl) (fun _ _ _ h => h) (.inl ⟨by rfl, ?_⟩) (by assumption) (by kernel_rfl) (d := 14) rfl (by simp only [Act.put, List.setIfInBounds_toArray, List.set_cons_zero, List.set_cons_succ]; rfl) ?_
            rotate_left
            · intro w' hSw
              try dsimp only at hSw
              go_split_ands
              go_simp
              try with_reducible rfl
            refine take_next (i := 1) (v := ?_) [0] (ts' := [0, 1]) rfl (by kernel_rfl) (by kernel_rfl) (by kernel_rfl) (fun _ _ _ h => h) (.inl ⟨by rfl, ?_⟩) (by assumption) (by kernel_rfl) (d := 15) rfl (by simp only [Act.put, List.setIfInBounds_toArray, List.set_cons_zero, List.set_cons_succ]; rfl) ?_
            rotate_left
            · intro w' hSw
              try dsimp only at hSw
              go_split_ands
              go_simp
              try with_reducible rfl
            refine take_next (i := 2) (v := ?_) [0, 1] (ts' := [0, 1, 2]) rfl (by kernel_rfl) (by kernel_rfl) (by kernel_rfl) (fun _ _ _ h => h) (.inl ⟨by rfl, ?_⟩) (by assumption) (by kernel_rfl) (d := 16) rfl (by simp only [Act.put, List.setIfInBounds_toArray, List.set_cons_zero, List.set_cons_succ]; rfl) ?_
            rotate_left
            · intro w' hSw
              try dsimp only at hSw
              go_split_ands
              go_simp
              try with_reducible rfl
            refine take_next (i := 3) (v := ?_) [0, 1, 2] (ts' := [0, 1, 2, 3]) rfl (by kernel_rfl) (by kernel_rfl) (by kernel_rfl) (fun _ _ _ h => h) (.inl ⟨by rfl, ?_⟩) (by assumption) (by kernel_rfl) (d := 17) rfl (by simp only [Act.put, List.setIfInBounds_toArray, List.set_cons_zero, List.set_cons_succ]; rfl) ?_
            rotate_left
            · intro w' hSw
              try dsimp only at hSw
              go_split_ands
              go_simp
              try with_reducible rfl
            refine take_next (i := 4) (v := ?_) [0, 1, 2, 3] (ts' := [0, 1, 2, 3, 4]) rfl (by kernel_rfl) (by kernel_rfl) (by kernel_rfl) (fun _ _ _ h => h) (.inl ⟨by rfl, ?_⟩) (by assumption) (by kernel_rfl) (d := 18) rfl (by simp only [Act.put, List.setIfInBounds_toArray, List.set_cons_zero, List.set_cons_succ]; rfl) ?_
            rotate_left
            · intro w' hSw
              try dsimp only at hSw
              go_split_ands
              go_simp
              try with_reducible rfl
            refine take_next (i := 5) (v := ?_) [0, 1, 2, 3, 4] (ts' := [0, 1, 2, 3, 4, 5]) rfl (by kernel_rfl) (by kernel_rfl) (by kernel_rfl) (fun _ _ _ h => h) (.inl ⟨by rfl, ?_⟩) (by assumption) (by kernel_rfl) (d := 19) rfl (by simp only [Act.put, List.setIfInBounds_toArray, List.set_cons_zero, List.set_cons_succ]; rfl) ?_
            rotate_left
            · intro w' hSw
              try dsimp only at hSw
              go_split_ands
              go_simp
              try with_reducible rfl
            refine take_next (i := 6) (v := ?_) [0, 1, 2, 3, 4, 5] (ts' := [0, 1, 2, 3, 4, 5, 6]) rfl (by kernel_rfl) (by kernel_rfl) (by kernel_rfl) (fun _ _ _ h => h) (.inl ⟨by rfl, ?_⟩) (by assumption) (by kernel_rfl) (d := 20) rfl (by simp only [Act.put, List.setIfInBounds_toArray, List.set_cons_zero, List.set_cons_succ]; rfl) ?_
            rotate_left
            · intro w' hSw
              try dsimp only at hSw
              go_split_ands
              go_simp
              try with_reducible rfl
            refine take_next (i := 7) (v := ?_) [0, 1, 2, 3, 4, 5, 6] (ts' := [0, 1, 2, 3, 4, 5, 6, 7]) rfl (by kernel_rfl) (by kernel_rfl) (by kernel_rfl) (fun _ _ _ h => h) (.inl ⟨by rfl, ?_⟩) (by assumption) (by kernel_rfl) (d := 21) rfl (by simp only [Act.put, List.setIfInBounds_toArray, List.set_cons_zero, List.set_cons_succ]; rfl) ?_
            rotate_left
            · intro w' hSw
              try dsimp only at hSw
              go_split_ands
              go_simp
              try with_reducible rfl
            refine take_next (i := 8) (v := ?_) [0, 1, 2, 3, 4, 5, 6, 7] (ts' := [0, 1, 2, 3, 4, 5, 6, 7, 8]) rfl (by kernel_rfl) (by kernel_rfl) (by kernel_rfl) (fun _ _ _ h => h) (.inl ⟨by rfl, ?_⟩) (by assumption) (by kernel_rfl) (d := 22) rfl (by simp only [Act.put, List.setIfInBounds_toArray, List.set_cons_zero, List.set_cons_succ]; rfl) ?_
            rotate_left
            · intro w' hSw
              try dsimp only at hSw
              go_split_ands
              go_simp
              try with_reducible rfl
            refine take_next (i := 9) (v := ?_) [0, 1, 2, 3, 4, 5, 6, 7, 8] (ts' := [0, 1, 2, 3, 4, 5, 6, 7, 8, 9]) rfl (by kernel_rfl) (by kernel_rfl) (by kernel_rfl) (fun _ _ _ h => h) (.inl ⟨by rfl, ?_⟩) (by assumption) (by kernel_rfl) (d := 23) rfl (by simp only [Act.put, List.setIfInBounds_toArray, List.set_cons_zero, List.set_cons_succ]; rfl) ?_
            rotate_left
            · intro w' hSw
              try dsimp only at hSw
              go_split_ands
              go_simp
              try with_reducible rfl
            refine take_next (i := 10) (v := ?_) [0, 1, 2, 3, 4, 5, 6, 7, 8, 9] (ts' := [0, 1, 2, 3, 4, 5, 6, 7, 8, 9, 10]) rfl (by kernel_rfl) (by kernel_rfl) (by kernel_rfl) (fun _ _ _ h => h) (.inl ⟨by rfl, ?_⟩) (by assumption) (by kernel_rfl) (d := 24) rfl (by simp only [Act.put, List.setIfInBounds_toArray, List.set_cons_zero, List.set_cons_succ]; rfl) ?_
            rotate_left
            · intro w' hSw
              try dsimp only at hSw
              go_split_ands
              go_simp
              try with_reducible rfl
            refine take_next (i := 11) (v := ?_) [0, 1, 2, 3, 4, 5, 6, 7, 8, 9, 10] (ts' := [0, 1, 2, 3, 4, 5, 6, 7, 8, 9, 10, 11]) rfl (by kernel_rfl) (by kernel_rfl) (by kernel_rfl) (fun _ _ _ h => h) (.inl ⟨by rfl, ?_⟩) (by assumption) (by kernel_rfl) (d := 25) rfl (by simp only [Act.put, List.setIfInBounds_toArray, List.set_cons_zero, List.set_cons_succ]; rfl) ?_
            rotate_left
            · intro w' hSw
              try dsimp only at hSw
              go_split_ands
              go_simp
              try with_reducible rfl
            refine take_next (i := 12) (v := ?_) [0, 1, 2, 3, 4, 5, 6, 7, 8, 9, 10, 11] (ts' := [0, 1, 2, 3, 4, 5, 6, 7, 8, 9, 10, 11, 12]) rfl (by kernel_rfl) (by kernel_rfl) (by kernel_rfl) (fun _ _ _ h => h) (.inl ⟨by rfl, ?_⟩) (by assumption) (by kernel_rfl) (d := 26) rfl (by simp only [Act.put, List.setIfInBounds_toArray, List.set_cons_zero, List.set_cons_succ]; rfl) ?_
            rotate_left
            · intro w' hSw
              try dsimp only at hSw
              go_split_ands
              go_simp
              try with_reducible rfl
            refine take_next (i := 13) (v := ?_) [0, 1, 2, 3, 4, 5, 6, 7, 8, 9, 10, 11, 12] (ts' := [0, 1, 2, 3, 4, 5, 6, 7, 8, 9, 10, 11, 12, 13]) rfl (by kernel_rfl) (by kernel_rfl) (by kernel_rfl) (fun _ _ _ h => h) (.inl ⟨by rfl, ?_⟩) (by assumption) (by kernel_rfl) (d := 27) rfl (by simp only [Act.put, List.setIfInBounds_toArray, List.set_cons_zero, List.set_cons_succ]; rfl) ?_
            rotate_left
            · intro w' hSw
              try dsimp only at hSw
              go_split_ands
              go_simp
              try with_reducible rfl
            refine take_next (i := 14) (v := ?_) [0, 1, 2, 3, 4, 5, 6, 7, 8, 9, 10, 11, 12, 13] (ts' := [0, 1, 2, 3, 4, 5, 6, 7, 8, 9, 10, 11, 12, 13, 14]) rfl (by kernel_rfl) (by kernel_rfl) (by kernel_rfl) (fun _ _ _ h => h) (.inl ⟨by rfl, ?_⟩) (by assumption) (by kernel_rfl) (d := 28) rfl (by simp only [Act.put, List.setIfInBounds_toArray, List.set_cons_zero, List.set_cons_succ]; rfl) ?_
            rotate_left
            · intro w' hSw
              try dsimp only at hSw
              go_split_ands
              go_simp
              try with_reducible rfl
            refine take_next (i := 15) (v := ?_) [0, 1, 2, 3, 4, 5, 6, 7, 8, 9, 10, 11, 12, 13, 14] (ts' := [0, 1, 2, 3, 4, 5, 6, 7, 8, 9, 10, 11, 12, 13, 14, 15]) rfl (by kernel_rfl) (by kernel_rfl) (by kernel_rfl) (fun _ _ _ h => h) (.inl ⟨by rfl, ?_⟩) (by assumption) (by kernel_rfl) (d := 29) rfl (by simp only [Act.put, List.setIfInBounds_toArray, List.set_cons_zero, List.set_cons_succ]; rfl) ?_
            rotate_left
            · intro w' hSw
              try dsimp only at hSw
              go_split_ands
              go_simp
              try with_reducible rfl
            refine take_next (i := 16) (v := ?_) [0, 1, 2, 3, 4, 5, 6, 7, 8, 9, 10, 11, 12, 13, 14, 15] (ts' := [0, 1, 2, 3, 4, 5, 6, 7, 8, 9, 10, 11, 12, 13, 14, 15, 16]) rfl (by kernel_rfl) (by kernel_rfl) (by kernel_rfl) (fun _ _ _ h => h) (.inl ⟨by rfl, ?_⟩) (by assumption) (by kernel_rfl) (d := 30) rfl (by simp only [Act.put, List.setIfInBounds_toArray, List.set_cons_zero, List.set_cons_succ]; rfl) ?_
            rotate_left
            · intro w' hSw
              try dsimp only at hSw
              go_split_ands
              go_simp
              try with_reducible rfl
            refine take_next (i := 17) (v := ?_) [0, 1, 2, 3, 4, 5, 6, 7, 8, 9, 10, 11, 12, 13, 14, 15, 16] (ts' := [0, 1, 2, 3, 4, 5, 6, 7, 8, 9, 10, 11, 12, 13, 14, 15, 16, 17]) rfl (by kernel_rfl) (by kernel_rfl) (by kernel_rfl) (fun _ _ _ h => h) (.inl ⟨by rfl, ?_⟩) (by assumption) (by kernel_rfl) (d := 31) rfl (by simp only [Act.put, List.setIfInBounds_toArray, List.set_cons_zero, List.set_cons_succ]; rfl) ?_
            rotate_left
            · intro w' hSw
              try dsimp only at hSw
              go_split_ands
              go_simp
              try with_reducible rfl
            refine take_next (i := 18) (v := ?_) [0, 1, 2, 3, 4, 5, 6, 7, 8, 9, 10, 11, 12, 13, 14, 15, 16, 17] (ts' := [0, 1, 2, 3, 4, 5, 6, 7, 8, 9, 10, 11, 12, 13, 14, 15, 16, 17, 18]) rfl (by kernel_rfl) (by kernel_rfl) (by kernel_rfl) (fun _ _ _ h => h) (.inl ⟨by rfl, ?_⟩) (by assumption) (by kernel_rfl) (d := 32) rfl (by simp only [Act.put, List.setIfInBounds_toArray, List.set_cons_zero, List.set_cons_succ]; rfl) ?_
            rotate_left
            · intro w' hSw
              try dsimp only at hSw
              go_split_ands
              go_simp
              try with_reducible rfl
            refine take_next (i := 19) (v := ?_) [0, 1, 2, 3, 4, 5, 6, 7, 8, 9, 10, 11, 12, 13, 14, 15, 16, 17, 18] (ts' := [0, 1, 2, 3, 4, 5, 6, 7, 8, 9, 10, 11, 12, 13, 14, 15, 16, 17, 18, 19]) rfl (by kernel_rfl) (by kernel_rfl) (by kernel_rfl) (fun _ _ _ h => h) (.inl ⟨by rfl, ?_⟩) (by assumption) (by kernel_rfl) (d := 33) rfl (by simp only [Act.put, List.setIfInBounds_toArray, List.set_cons_zero, List.set_cons_succ]; rfl) ?_
            rotate_left
            · intro w' hSw
              try dsimp only at hSw
              go_split_ands
              go_simp
              try with_reducible rfl
            refine take_next (i := 20) (v := ?_) [0, 1, 2, 3, 4, 5, 6, 7, 8, 9, 10, 11, 12, 13, 14, 15, 16, 17, 18, 19] (ts' := [0, 1, 2, 3, 4, 5, 6, 7, 8, 9, 10, 11, 12, 13, 14, 15, 16, 17, 18, 19, 20]) rfl (by kernel_rfl) (by kernel_rfl) (by kernel_rfl) (fun _ _ _ h => h) (.inl ⟨by rfl, ?_⟩) (by assumption) (by kernel_rfl) (d := 34) rfl (by simp only [Act.put, List.setIfInBounds_toArray, List.set_cons_zero, List.set_cons_succ]; rfl) ?_
            rotate_left
            · intro w' hSw
              try dsimp only at hSw
              go_split_ands
              go_simp
              try with_reducible rfl
            refine take_next (i := 21) (v := ?_) [0, 1, 2, 3, 4, 5, 6, 7, 8, 9, 10, 11, 12, 13, 14, 15, 16, 17, 18, 19, 20] (ts' := [0, 1, 2, 3, 4, 5, 6, 7, 8, 9, 10, 11, 12, 13, 14, 15, 16, 17, 18, 19, 20, 21]) rfl (by kernel_rfl) (by kernel_rfl) (by kernel_rfl) (fun _ _ _ h => h) (.inl ⟨by rfl, ?_⟩) (by assumption) (by kernel_rfl) (d := 35) rfl (by simp only [Act.put, List.setIfInBounds_toArray, List.set_cons_zero, List.set_cons_succ]; rfl) ?_
            rotate_left
            · intro w' hSw
              try dsimp only at hSw
              go_split_ands
              go_simp
              try with_reducible rfl
            refine take_next (i := 22) (v := ?_) [0, 1, 2, 3, 4, 5, 6, 7, 8, 9, 10, 11, 12, 13, 14, 15, 16, 17, 18, 19, 20, 21] (ts' := [0, 1, 2, 3, 4, 5, 6, 7, 8, 9, 10, 11, 12, 13, 14, 15, 16, 17, 18, 19, 20, 21, 22]) rfl (by kernel_rfl) (by kernel_rfl) (by kernel_rfl) (fun _ _ _ h => h) (.inl ⟨by rfl, ?_⟩) (by assumption) (by kernel_rfl) (d := 36) rfl (by simp only [Act.put, List.setIfInBounds_toArray, List.set_cons_zero, List.set_cons_succ]; rfl) ?_
            rotate_left
            · intro w' hSw
              try dsimp only at hSw
              go_split_ands
              go_simp
              try with_reducible rfl
            refine take_next (i := 23) (v := ?_) [0, 1, 2, 3, 4, 5, 6, 7, 8, 9, 10, 11, 12, 13, 14, 15, 16, 17, 18, 19, 20, 21, 22] (ts' := [0, 1, 2, 3, 4, 5, 6, 7, 8, 9, 10, 11, 12, 13, 14, 15, 16, 17, 18, 19, 20, 21, 22, 23]) rfl (by kernel_rfl) (by kernel_rfl) (by kernel_rfl) (fun _ _ _ h => h) (.inl ⟨by rfl, ?_⟩) (by assumption) (by kernel_rfl) (d := 37) rfl (by simp only [Act.put, List.setIfInBounds_toArray, List.set_cons_zero, List.set_cons_succ]; rfl) ?_
            rotate_left
            · intro w' hSw
              try dsimp only at hSw
              go_split_ands
              go_simp
              try with_reducible rfl
            refine take_next (i := 24) (v := ?_) [0, 1, 2, 3, 4, 5, 6, 7, 8, 9, 10, 11, 12, 13, 14, 15, 16, 17, 18, 19, 20, 21, 22, 23] (ts' := [0, 1, 2, 3, 4, 5, 6, 7, 8, 9, 10, 11, 12, 13, 14, 15, 16, 17, 18, 19, 20, 21, 22, 23, 24]) rfl (by kernel_rfl) (by kernel_rfl) (by kernel_rfl) (fun _ _ _ h => h) (.inl ⟨by rfl, ?_⟩) (by assumption) (by kernel_rfl) (d := 38) rfl (by simp only [Act.put, List.setIfInBounds_toArray, List.set_cons_zero, List.set_cons_succ]; rfl) ?_
            rotate_left
            · intro w' hSw
              try dsimp only at hSw
              go_split_ands
              go_simp
              try with_reducible rfl
            refine take_next (i := 25) (v := ?_) [0, 1, 2, 3, 4, 5, 6, 7, 8, 9, 10, 11, 12, 13, 14, 15, 16, 17, 18, 19, 20, 21, 22, 23, 24] (ts' := [0, 1, 2, 3, 4, 5, 6, 7, 8, 9, 10, 11, 12, 13, 14, 15, 16, 17, 18, 19, 20, 21, 22, 23, 24, 25]) rfl (by kernel_rfl) (by kernel_rfl) (by kernel_rfl) (fun _ _ _ h => h) (.inl ⟨by rfl, ?_⟩) (by assumption) (by kernel_rfl) (d := 39) rfl (by simp only [Act.put, List.setIfInBounds_toArray, List.set_cons_zero, List.set_cons_succ]; rfl) ?_
            rotate_left
            · intro w' hSw
              try dsimp only at hSw
              go_split_ands
              go_simp
              try with_reducible rfl
            refine wpAnyH_ready (rs := [26]) (by kernel_rfl) (by simp) ?_
            refine AllReadyH.cons (o := _) rfl (fun K hK => ?_) AllReadyH.nil
            go_simp
            refine (HC _ hHeld.1).mono ?_
            rintro e w26 ⟨rfl, hb26⟩
            dsimp only
            refine hK.out _ _ ⟨below_tr hHeld.1 hb26, hI _ (below_tr hHeld.1 hb26)⟩ (fun hHeld => ?_)
            clear hK K
            refine mask_is (n := 29) [0, 1, 2, 3, 4, 5, 6, 7, 8, 9, 10, 11, 12, 13, 14, 15, 16, 17, 18, 19, 20, 21, 22, 23, 24, 25, 26] (by kernel_rfl) ?_
            refine take_next (i := 27) (v := ?_) [0, 1, 2, 3, 4, 5, 6, 7, 8, 9, 10, 11, 12, 13, 14, 15, 16, 17, 18, 19, 20, 21, 22, 23, 24, 25, 26] (ts' := [0, 1, 2, 3, 4, 5, 6, 7, 8, 9, 10, 11, 12, 13, 14, 15, 16, 17, 18, 19, 20, 21, 22, 23, 24, 25, 26, 27]) rfl (by kernel_rfl) (by kernel_rfl) (by kernel_rfl) (fun _ _ _ h => h) (.inl ⟨by rfl, ?_⟩) (by assumption) (by kernel_rfl) (d := 41) rfl (by simp only [Act.put, List.setIfInBounds_toArray, List.set_cons_zero, List.set_cons_succ]; rfl) ?_
            rotate_left
            · intro w' hSw
              try dsimp only at hSw
              go_split_ands
              go_simp
              try with_reducible rfl
            refine take_next (i := 28) (v := ?_) [0, 1, 2, 3, 4, 5, 6, 7, 8, 9, 10, 11, 12, 13, 14, 15, 16, 17, 18, 19, 20, 21, 22, 23, 24, 25, 26, 27] (ts' := [0, 1, 2, 3, 4, 5, 6, 7, 8, 9, 10, 11, 12, 13, 14, 15, 16, 17, 18, 19, 20, 21, 22, 23, 24, 25, 26, 27, 28]) rfl (by kernel_rfl) (by kernel_rfl) (by kernel_rfl) (fun _ _ _ h => h) (.inl ⟨by rfl, ?_⟩) (by assumption) (by kernel_rfl) (d := 42) rfl (by simp only [Act.put, List.setIfInBounds_toArray, List.set_cons_zero, List.set_cons_succ]; rfl) ?_
            rotate_left
            · intro w' hSw
              try dsimp only at hSw
              go_split_ands
              go_simp
              try with_reducible rfl
            refine wpAnyH_done (by kernel_rfl) ?_ _
            try dsimp only at hHeld
            go_wp2
            go_ret
            exact ⟨ret_bool (by rw [subsOkB, propB_f]; exact fun h => HF.out h), bO.trans (hHeld.1.mono bO.size)⟩
          · rw [hok] at HC
            have HNo := Lib.hid (fun u (hu : u ∈ l) (hv : u.var ∈ varsOf s.ty) (h : SubsP l) => (HP.out h).2.2.2.2 u hu hv)
            have HS := Lib.hid (fun (h : ∀ u ∈ l, u.var ∉ varsOf s.ty) => HS.out ⟨by omega, by omega, fun m' hm' p' hp' => by rw [show m' = m from by omega, hp0] at hp'; cases hp'; omega, hok, h⟩)
            clear HP hok
            clear hp0
            go_wp2_with fail
            rw [← hO]
            clear hO
            generalize wo.alloc O = wb at *
            have hI := fun W (hB : Below wb.heap.size wb W) => (⟨(hB.cell (p := ⟨_, 0, none⟩) z0).trans d0, (hB.cell (p := ⟨_, 1, none⟩) z0).trans d1, (hB.cell (p := ⟨_, _, none⟩) hbb).trans hp⟩ : W.cell? ⟨wo.heap.size, 0, none⟩ = some (.int .i64 s.var) ∧ W.cell? ⟨wo.heap.size, 1, none⟩ = some (.slice p1 s.ty.length c1) ∧ W.cell? ⟨b, o + m * 2, none⟩ = some (.int .i64 p.var))
            clear d0 d1 hp
            refine region_begin (n := 29) (S := (fun W => Below wb.heap.size wb W ∧ (W.cell? ⟨wo.heap.size, 0, none⟩ = some (.int .i64 s.var) ∧ W.cell? ⟨wo.heap.size, 1, none⟩ = some (.slice p1 s.ty.length c1) ∧ W.cell? ⟨b, o + m * 2, none⟩ = some (.int .i64 p.var)))) (by kernel_rfl) rfl (by kernel_rfl) ⟨(Below.refl _ _).drew, hI _ (Below.refl _ _).drew⟩ (fun hHeld => ?_)
            refine take_next (i := 0) (v := ?_) [] (ts' := [0]) rfl (by kernel_rfl) (by kernel_rfl) (by kernel_rfl) (fun _ _ _ h => h) (.inl ⟨by rfl, ?_⟩) (by assumption) (by kernel_rfl) (d := 14) rfl (by simp only [Act.put, List.setIfInBounds_toArray, List.set_cons_zero, List.set_cons_succ]; rfl) ?_
            rotate_left
            · intro w' hSw
              try dsimp only at hSw
              go_split_ands
              go_simp
              try with_reducible rfl
            refine take_next (i := 1) (v := ?_) [0] (ts' := [0, 1]) rfl (by kernel_rfl) (by kernel_rfl) (by kernel_rfl) (fun _ _ _ h => h) (.inl ⟨by rfl, ?_⟩) (by assumption) (by kernel_rfl) (d := 15) rfl (by simp only [Act.put, List.setIfInBounds_toArray, List.set_cons_zero, List.set_cons_succ]; rfl) ?_
            rotate_left
            · intro w' hSw
              try dsimp only at hSw
              go_split_ands
              go_simp
              try with_reducible rfl
            refine take_next (i := 2) (v := ?_) [0, 1] (ts' := [0, 1, 2]) rfl (by kernel_rfl) (by kernel_rfl) (by kernel_rfl) (fun _ _ _ h => h) (.inl ⟨by rfl, ?_⟩) (by assumption) (by kernel_rfl) (d := 16) rfl (by simp only [Act.put, List.setIfInBounds_toArray, List.set_cons_zero, List.set_cons_succ]; rfl) ?_
            rotate_left
            · intro w' hSw
              try dsimp only at hSw
              go_split_ands
              go_simp
              try with_reducible rfl
            refine take_next (i := 3) (v := ?_) [0, 1, 2] (ts' := [0, 1, 2, 3]) rfl (by kernel_rfl) (by kernel_rfl) (by kernel_rfl) (fun _ _ _ h => h) (.inl ⟨by rfl, ?_⟩) (by assumption) (by kernel_rfl) (d := 17) rfl (by simp only [Act.put, List.setIfInBounds_toArray, List.set_cons_zero, List.set_cons_succ]; rfl) ?_
            rotate_left
            · intro w' hSw
              try dsimp only at hSw
              go_split_ands
              go_simp
              try with_reducible rfl
            refine take_next (i := 4) (v := ?_) [0, 1, 2, 3] (ts' := [0, 1, 2, 3, 4]) rfl (by kernel_rfl) (by kernel_rfl) (by kernel_rfl) (fun _ _ _ h => h) (.inl ⟨by rfl, ?_⟩) (by assumption) (by kernel_rfl) (d := 18) rfl (by simp only [Act.put, List.setIfInBounds_toArray, List.set_cons_zero, List.set_cons_succ]; rfl) ?_
            rotate_left
            · intro w' hSw
              try dsimp only at hSw
              go_split_ands
              go_simp
              try with_reducible rfl
            refine take_next (i := 5) (v := ?_) [0, 1, 2, 3, 4] (ts' := [0, 1, 2, 3, 4, 5]) rfl (by kernel_rfl) (by kernel_rfl) (by kernel_rfl) (fun _ _ _ h => h) (.inl ⟨by rfl, ?_⟩) (by assumption) (by kernel_rfl) (d := 19) rfl (by simp only [Act.put, List.setIfInBounds_toArray, List.set_cons_zero, List.set_cons_succ]; rfl) ?_
            rotate_left
            · intro w' hSw
              try dsimp only at hSw
              go_split_ands
              go_simp
              try with_reducible rfl
            refine take_next (i := 6) (v := ?_) [0, 1, 2, 3, 4, 5] (ts' := [0, 1, 2, 3, 4, 5, 6]) rfl (by kernel_rfl) (by kernel_rfl) (by kernel_rfl) (fun _ _ _ h => h) (.inl ⟨by rfl, ?_⟩) (by assumption) (by kernel_rfl) (d := 20) rfl (by simp only [Act.put, List.setIfInBounds_toArray, List.set_cons_zero, List.set_cons_succ]; rfl) ?_
            rotate_left
            · intro w' hSw
              try dsimp only at hSw
              go_split_ands
              go_simp
              try with_reducible rfl
            refine take_next (i := 7) (v := ?_) [0, 1, 2, 3, 4, 5, 6] (ts' := [0, 1, 2, 3, 4, 5, 6, 7]) rfl (by kernel_rfl) (by kernel_rfl) (by kernel_rfl) (fun _ _ _ h => h) (.inl ⟨by rfl, ?_⟩) (by assumption) (by kernel_rfl) (d := 21) rfl (by simp only [Act.put, List.setIfInBounds_toArray, List.set_cons_zero, List.set_cons_succ]; rfl) ?_
            rotate_left
            · intro w' hSw
              try dsimp only at hSw
              go_split_ands
              go_simp
              try with_reducible rfl
            refine take_next (i := 8) (v := ?_) [0, 1, 2, 3, 4, 5, 6, 7] (ts' := [0, 1, 2, 3, 4, 5, 6, 7, 8]) rfl (by kernel_rfl) (by kernel_rfl) (by kernel_rfl) (fun _ _ _ h => h) (.inl ⟨by rfl, ?_⟩) (by assumption) (by kernel_rfl) (d := 22) rfl (by simp only [Act.put, List.setIfInBounds_toArray, List.set_cons_zero, List.set_cons_succ]; rfl) ?_
            rotate_left
            · intro w' hSw
              try dsimp only at hSw
              go_split_ands
              go_simp
              try with_reducible rfl
            refine take_next (i := 9) (v := ?_) [0, 1, 2, 3, 4, 5, 6, 7, 8] (ts' := [0, 1, 2, 3, 4, 5, 6, 7, 8, 9]) rfl (by kernel_rfl) (by kernel_rfl) (by kernel_rfl) (fun _ _ _ h => h) (.inl ⟨by rfl, ?_⟩) (by assumption) (by kernel_rfl) (d := 23) rfl (by simp only [Act.put, List.setIfInBounds_toArray, List.set_cons_zero, List.set_cons_succ]; rfl) ?_
            rotate_left
            · intro w' hSw
              try dsimp only at hSw
              go_split_ands
              go_simp
              try with_reducible rfl
            refine take_next (i := 10) (v := ?_) [0, 1, 2, 3, 4, 5, 6, 7, 8, 9] (ts' := [0, 1, 2, 3, 4, 5, 6, 7, 8, 9, 10]) rfl (by kernel_rfl) (by kernel_rfl) (by kernel_rfl) (fun _ _ _ h => h) (.inl ⟨by rfl, ?_⟩) (by assumption) (by kernel_rfl) (d := 24) rfl (by simp only [Act.put, List.setIfInBounds_toArray, List.set_cons_zero, List.set_cons_succ]; rfl) ?_
            rotate_left
            · intro w' hSw
              try dsimp only at hSw
              go_split_ands
              go_simp
              try with_reducible rfl
            refine take_next (i := 11) (v := ?_) [0, 1, 2, 3, 4, 5, 6, 7, 8, 9, 10] (ts' := [0, 1, 2, 3, 4, 5, 6, 7, 8, 9, 10, 11]) rfl (by kernel_rfl) (by kernel_rfl) (by kernel_rfl) (fun _ _ _ h => h) (.inl ⟨by rfl, ?_⟩) (by assumption) (by kernel_rfl) (d := 25) rfl (by simp only [Act.put, List.setIfInBounds_toArray, List.set_cons_zero, List.set_cons_succ]; rfl) ?_
            rotate_left
            · intro w' hSw
              try dsimp only at hSw
              go_split_ands
              go_simp
              try with_reducible rfl
            refine take_next (i := 12) (v := ?_) [0, 1, 2, 3, 4, 5, 6, 7, 8, 9, 10, 11] (ts' := [0, 1, 2, 3, 4, 5, 6, 7, 8, 9, 10, 11, 12]) rfl (by kernel_rfl) (by kernel_rfl) (by kernel_rfl) (fun _ _ _ h => h) (.inl ⟨by rfl, ?_⟩) (by assumption) (by kernel_rfl) (d := 26) rfl (by simp only [Act.put, List.setIfInBounds_toArray, List.set_cons_zero, List.set_cons_succ]; rfl) ?_
            rotate_left
            · intro w' hSw
              try dsimp only at hSw
              go_split_ands
              go_simp
              try with_reducible rfl
            refine take_next (i := 13) (v := ?_) [0, 1, 2, 3, 4, 5, 6, 7, 8, 9, 10, 11, 12] (ts' := [0, 1, 2, 3, 4, 5, 6, 7, 8, 9, 10, 11, 12, 13]) rfl (by kernel_rfl) (by kernel_rfl) (by kernel_rfl) (fun _ _ _ h => h) (.inl ⟨by rfl, ?_⟩) (by assumption) (by kernel_rfl) (d := 27) rfl (by simp only [Act.put, List.setIfInBounds_toArray, List.set_cons_zero, List.set_cons_succ]; rfl) ?_
            rotate_left
            · intro w' hSw
              try dsimp only at hSw
              go_split_ands
              go_simp
              try with_reducible rfl
            refine take_next (i := 14) (v := ?_) [0, 1, 2, 3, 4, 5, 6, 7, 8, 9, 10, 11, 12, 13] (ts' := [0, 1, 2, 3, 4, 5, 6, 7, 8, 9, 10, 11, 12, 13, 14]) rfl (by kernel_rfl) (by kernel_rfl) (by kernel_rfl) (fun _ _ _ h => h) (.inl ⟨by rfl, ?_⟩) (by assumption) (by kernel_rfl) (d := 28) rfl (by simp only [Act.put, List.setIfInBounds_toArray, List.set_cons_zero, List.set_cons_succ]; rfl) ?_
            rotate_left
            · intro w' hSw
              try dsimp only at hSw
              go_split_ands
              go_simp
              try with_reducible rfl
            refine take_next (i := 15) (v := ?_) [0, 1, 2, 3, 4, 5, 6, 7, 8, 9, 10, 11, 12, 13, 14] (ts' := [0, 1, 2, 3, 4, 5, 6, 7, 8, 9, 10, 11, 12, 13, 14, 15]) rfl (by kernel_rfl) (by kernel_rfl) (by kernel_rfl) (fun _ _ _ h => h) (.inl ⟨by rfl, ?_⟩) (by assumption) (by kernel_rfl) (d := 29) rfl (by simp only [Act.put, List.setIfInBounds_toArray, List.set_cons_zero, List.set_cons_succ]; rfl) ?_
            rotate_left
            · intro w' hSw
              try dsimp only at hSw
              go_split_ands
              go_simp
              try with_reducible rfl
            refine take_next (i := 16) (v := ?_) [0, 1, 2, 3, 4, 5, 6, 7, 8, 9, 10, 11, 12, 13, 14, 15] (ts' := [0, 1, 2, 3, 4, 5, 6, 7, 8, 9, 10, 11, 12, 13, 14, 15, 16]) rfl (by kernel_rfl) (by kernel_rfl) (by kernel_rfl) (fun _ _ _ h => h) (.inl ⟨by rfl, ?_⟩) (by assumption) (by kernel_rfl) (d := 30) rfl (by simp only [Act.put, List.setIfInBounds_toArray, List.set_cons_zero, List.set_cons_succ]; rfl) ?_
            rotate_left
            · intro w' hSw
              try dsimp only at hSw
              go_split_ands
              go_simp
              try with_reducible rfl
            refine take_next (i := 17) (v := ?_) [0, 1, 2, 3, 4, 5, 6, 7, 8, 9, 10, 11, 12, 13, 14, 15, 16] (ts' := [0, 1, 2, 3, 4, 5, 6, 7, 8, 9, 10, 11, 12, 13, 14, 15, 16, 17]) rfl (by kernel_rfl) (by kernel_rfl) (by kernel_rfl) (fun _ _ _ h => h) (.inl ⟨by rfl, ?_⟩) (by assumption) (by kernel_rfl) (d := 31) rfl (by simp only [Act.put, List.setIfInBounds_toArray, List.set_cons_zero, List.set_cons_succ]; rfl) ?_
            rotate_left
            · intro w' hSw
              try dsimp only at hSw
              go_split_ands
              go_simp
              try with_reducible rfl
            refine take_next (i := 18) (v := ?_) [0, 1, 2, 3, 4, 5, 6, 7, 8, 9, 10, 11, 12, 13, 14, 15, 16, 17] (ts' := [0, 1, 2, 3, 4, 5, 6, 7, 8, 9, 10, 11, 12, 13, 14, 15, 16, 17, 18]) rfl (by kernel_rfl) (by kernel_rfl) (by kernel_rfl) (fun _ _ _ h => h) (.inl ⟨by rfl, ?_⟩) (by assumption) (by kernel_rfl) (d := 32) rfl (by simp only [Act.put, List.setIfInBounds_toArray, List.set_cons_zero, List.set_cons_succ]; rfl) ?_
            rotate_left
            · intro w' hSw
              try dsimp only at hSw
              go_split_ands
              go_simp
              try with_reducible rfl
            refine take_next (i := 19) (v := ?_) [0, 1, 2, 3, 4, 5, 6, 7, 8, 9, 10, 11, 12, 13, 14, 15, 16, 17, 18] (ts' := [0, 1, 2, 3, 4, 5, 6, 7, 8, 9, 10, 11, 12, 13, 14, 15, 16, 17, 18, 19]) rfl (by kernel_rfl) (by kernel_rfl) (by kernel_rfl) (fun _ _ _ h => h) (.inl ⟨by rfl, ?_⟩) (by assumption) (by kernel_rfl) (d := 33) rfl (by simp only [Act.put, List.setIfInBounds_toArray, List.set_cons_zero, List.set_cons_succ]; rfl) ?_
            rotate_left
            · intro w' hSw
              try dsimp only at hSw
              go_split_ands
              go_simp
              try with_reducible rfl
            refine take_next (i := 20) (v := ?_) [0, 1, 2, 3, 4, 5, 6, 7, 8, 9, 10, 11, 12, 13, 14, 15, 16, 17, 18, 19] (ts' := [0, 1, 2, 3, 4, 5, 6, 7, 8, 9, 10, 11, 12, 13, 14, 15, 16, 17, 18, 19, 20]) rfl (by kernel_rfl) (by kernel_rfl) (by kernel_rfl) (fun _ _ _ h => h) (.inl ⟨by rfl, ?_⟩) (by assumption) (by kernel_rfl) (d := 34) rfl (by simp only [Act.put, List.setIfInBounds_toArray, List.set_cons_zero, List.set_cons_succ]; rfl) ?_
            rotate_left
            · intro w' hSw
              try dsimp only at hSw
              go_split_ands
              go_simp
              try with_reducible rfl
            refine take_next (i := 21) (v := ?_) [0, 1, 2, 3, 4, 5, 6, 7, 8, 9, 10, 11, 12, 13, 14, 15, 16, 17, 18, 19, 20] (ts' := [0, 1, 2, 3, 4, 5, 6, 7, 8, 9, 10, 11, 12, 13, 14, 15, 16, 17, 18, 19, 20, 21]) rfl (by kernel_rfl) (by kernel_rfl) (by kernel_rfl) (fun _ _ _ h => h) (.inl ⟨by rfl, ?_⟩) (by assumption) (by kernel_rfl) (d := 35) rfl (by simp only [Act.put, List.setIfInBounds_toArray, List.set_cons_zero, List.set_cons_succ]; rfl) ?_
            rotate_left
            · intro w' hSw
              try dsimp only at hSw
              go_split_ands
              go_simp
              try with_reducible rfl
            refine take_next (i := 22) (v := ?_) [0, 1, 2, 3, 4, 5, 6, 7, 8, 9, 10, 11, 12, 13, 14, 15, 16, 17, 18, 19, 20, 21] (ts' := [0, 1, 2, 3, 4, 5, 6, 7, 8, 9, 10, 11, 12, 13, 14, 15, 16, 17, 18, 19, 20, 21, 22]) rfl (by kernel_rfl) (by kernel_rfl) (by kernel_rfl) (fun _ _ _ h => h) (.inl ⟨by rfl, ?_⟩) (by assumption) (by kernel_rfl) (d := 36) rfl (by simp only [Act.put, List.setIfInBounds_toArray, List.set_cons_zero, List.set_cons_succ]; rfl) ?_
            rotate_left
            · intro w' hSw
              try dsimp only at hSw
              go_split_ands
              go_simp
              try with_reducible rfl
            refine take_next (i := 23) (v := ?_) [0, 1, 2, 3, 4, 5, 6, 7, 8, 9, 10, 11, 12, 13, 14, 15, 16, 17, 18, 19, 20, 21, 22] (ts' := [0, 1, 2, 3, 4, 5, 6, 7, 8, 9, 10, 11, 12, 13, 14, 15, 16, 17, 18, 19, 20, 21, 22, 23]) rfl (by kernel_rfl) (by kernel_rfl) (by kernel_rfl) (fun _ _ _ h => h) (.inl ⟨by rfl, ?_⟩) (by assumption) (by kernel_rfl) (d := 37) rfl (by simp only [Act.put, List.setIfInBounds_toArray, List.set_cons_zero, List.set_cons_succ]; rfl) ?_
            rotate_left
            · intro w' hSw
              try dsimp only at hSw
              go_split_ands
              go_simp
              try with_reducible rfl
            refine take_next (i := 24) (v := ?_) [0, 1, 2, 3, 4, 5, 6, 7, 8, 9, 10, 11, 12, 13, 14, 15, 16, 17, 18, 19, 20, 21, 22, 23] (ts' := [0, 1, 2, 3, 4, 5, 6, 7, 8, 9, 10, 11, 12, 13, 14, 15, 16, 17, 18, 19, 20, 21, 22, 23, 24]) rfl (by kernel_rfl) (by kernel_rfl) (by kernel_rfl) (fun _ _ _ h => h) (.inl ⟨by rfl, ?_⟩) (by assumption) (by kernel_rfl) (d := 38) rfl (by simp only [Act.put, List.setIfInBounds_toArray, List.set_cons_zero, List.set_cons_succ]; rfl) ?_
            rotate_left
            · intro w' hSw
              try dsimp only at hSw
              go_split_ands
              go_simp
              try with_reducible rfl
            refine take_next (i := 25) (v := ?_) [0, 1, 2, 3, 4, 5, 6, 7, 8, 9, 10, 11, 12, 13, 14, 15, 16, 17, 18, 19, 20, 21, 22, 23, 24] (ts' := [0, 1, 2, 3, 4, 5, 6, 7, 8, 9, 10, 11, 12, 13, 14, 15, 16, 17, 18, 19, 20, 21, 22, 23, 24, 25]) rfl (by kernel_rfl) (by kernel_rfl) (by kernel_rfl) (fun _ _ _ h => h) (.inl ⟨by rfl, ?_⟩) (by assumption) (by kernel_rfl) (d := 39) rfl (by simp only [Act.put, List.setIfInBounds_toArray, List.set_cons_zero, List.set_cons_succ]; rfl) ?_
            rotate_left
            · intro w' hSw
              try dsimp only at hSw
              go_split_ands
              go_simp
              try with_reducible rfl
            refine wpAnyH_ready (rs := [26]) (by kernel_rfl) (by simp) ?_
            refine AllReadyH.cons (o := _) rfl (fun K hK => ?_) AllReadyH.nil
            go_simp
            refine (HC _ hHeld.1).mono ?_
            rintro e w26 ⟨rfl, hb26⟩
            dsimp only
            refine hK.out _ _ ⟨below_tr hHeld.1 hb26, hI _ (below_tr hHeld.1 hb26)⟩ (fun hHeld => ?_)
            clear hK K
            refine mask_is (n := 29) [0, 1, 2, 3, 4, 5, 6, 7, 8, 9, 10, 11, 12, 13, 14, 15, 16, 17, 18, 19, 20, 21, 22, 23, 24, 25, 26] (by kernel_rfl) ?_
            refine take_next (i := 27) (v := ?_) [0, 1, 2, 3, 4, 5, 6, 7, 8, 9, 10, 11, 12, 13, 14, 15, 16, 17, 18, 19, 20, 21, 22, 23, 24, 25, 26] (ts' := [0, 1, 2, 3, 4, 5, 6, 7, 8, 9, 10, 11, 12, 13, 14, 15, 16, 17, 18, 19, 20, 21, 22, 23, 24, 25, 26, 27]) rfl (by kernel_rfl) (by kernel_rfl) (by kernel_rfl) (fun _ _ _ h => h) (.inl ⟨by rfl, ?_⟩) (by assumption) (by kernel_rfl) (d := 41) rfl (by simp only [Act.put, List.setIfInBounds_toArray, List.set_cons_zero, List.set_cons_succ]; rfl) ?_
            rotate_left
            · intro w' hSw
              try dsimp only at hSw
              go_split_ands
              go_simp
              try with_reducible rfl
            refine take_next (i := 28) (v := ?_) [0, 1, 2, 3, 4, 5, 6, 7, 8, 9, 10, 11, 12, 13, 14, 15, 16, 17, 18, 19, 20, 21, 22, 23, 24, 25, 26, 27] (ts' := [0, 1, 2, 3, 4, 5, 6, 7, 8, 9, 10, 11, 12, 13, 14, 15, 16, 17, 18, 19, 20, 21, 22, 23, 24, 25, 26, 27, 28]) rfl (by kernel_rfl) (by kernel_rfl) (by kernel_rfl) (fun _ _ _ h => h) (.inl ⟨by rfl, ?_⟩) (by assumption) (by kernel_rfl) (d := 42) rfl (by simp only [Act.put, List.setIfInBounds_toArray, List.set_cons_zero, List.set_cons_succ]; rfl) ?_
            rotate_left
            · intro w' hSw
              try dsimp only at hSw
              go_split_ands
              go_simp
              try with_reducible rfl
            refine wpAnyH_done (by kernel_rfl) ?_ _
            try dsimp only at hHeld
            obtain ⟨hBx, hCx⟩ := hHeld
            have cs1 := hCx.2.1
            have bB : Below w.heap.size w w26 := bO.trans (hBx.mono bO.size)
            have kB := Kept.of_below hBx
            have zs : wo.heap.size < w26.heap.size := Nat.lt_of_lt_of_le z0 hBx.size
            have kW : Kept w w26 := Kept.of_below bB
            have hlen : s.ty.length ≤ 1048576 := Nat.le_trans (bulkL_len _ _) hzs
            have hIV := resTyVars_i64 rO
            clear hI HC hCx hBx hb26 ha hb ha1 hb1
            go_wp2
            go_loopw [45] (fun i wr => ∃ j : Nat, j ≤ l.length ∧ i = .int .i64 j ∧ (∀ u ∈ l.take j, u.var ∉ varsOf s.ty) ∧ Below w26.heap.size w26 wr) (fun i _ => l.length - (intOf i).toNat)
            case atStart => exact ⟨0, Nat.zero_le _, rfl, by simp, Below.refl _ _⟩
            case round =>
              obtain ⟨j, hj, rfl, hno, hbj⟩ := hrel
              have kj : Kept w26 wr := Kept.of_below hbj
              by_cases hlj : j < l.length
              · have hRj := hR0.kept SbEl.st (kW.trans kj)
                obtain ⟨p', cap', eq1, _, h2⟩ := hRj.form
                cases eq1
                obtain ⟨b', o', eq2, _, h3⟩ := h2 (by omega)
                cases eq2
                have ex := h3 j hlj
                have HNV := Lib.hid (fun (h : l[j].var ∉ varsOf s.ty) => not_mem_var (V := varsOf s.ty) hlj hno h)
                have HBad := Lib.hid (fun (h : l[j].var ∈ varsOf s.ty) => HNo.out l[j] (List.getElem_mem hlj) h)
                clear h2 h3 hno hRj
                generalize l[j] = u at *
                obtain ⟨⟨f0, j0⟩, ⟨v2, f1, q1⟩⟩ := ex
                obtain ⟨p2, c2, rfl, _, -⟩ := q1.form
                have cs : wr.cell? ⟨wo.heap.size, 1, none⟩ = some (.slice p1 s.ty.length c1) := (kj.cell _ _ zs).trans cs1
                have zs1 : wo.heap.size < wr.heap.size := Nat.lt_of_lt_of_le zs kj.size
                obtain ⟨O2, hO2⟩ : ∃ O2, O2 = Obj.cells #[.int .i64 u.var, .slice p2 u.ty.length c2] 59 := ⟨_, rfl⟩
                have y0 : (wr.alloc O2).cell? ⟨wr.heap.size, 0, none⟩ = some (.int .i64 u.var) := by rw [hO2]; simp
                have y1 : (wr.alloc O2).cell? ⟨wo.heap.size, 1, none⟩ = some (.slice p1 s.ty.length c1) := ((Kept.alloc wr O2).cell _ _ zs1).trans cs
                have bj2 : Below w26.heap.size w26 (wr.alloc O2) := hbj.trans ((Joins.below_alloc1 wr O2).mono hbj.size)
                have zr : wr.heap.size < (wr.alloc O2).heap.size := by simp
                have zs2 : wo.heap.size < (wr.alloc O2).heap.size := Nat.lt_trans zs1 zr
                have hV := fun W (hK : Kept (wr.alloc O2) W) => Lib.hid (sVars s.ty _ W (rO.kept TyIEl.st (kB.trans (kj.trans ((Kept.alloc wr O2).trans hK)))) hlen)
                go_wp2_with fail
                rw [← hO2]
                clear hO2
                generalize wr.alloc O2 = wc at *
                have hI2 := fun W (hB : Below wc.heap.size wc W) => (⟨(hB.cell (p := ⟨_, 1, none⟩) zs2).trans y1, (hB.cell (p := ⟨_, 0, none⟩) zr).trans y0⟩ : W.cell? ⟨wo.heap.size, 1, none⟩ = some (.slice p1 s.ty.length c1) ∧ W.cell? ⟨wr.heap.size, 0, none⟩ = some (.int .i64 u.var))
                have HV := fun W (hB : Below wc.heap.size wc W) => (hV W (Kept.of_below hB)).out
                clear y0 y1 hV
                refine region_begin (n := 6) (S := (fun W => Below wc.heap.size wc W ∧ (W.cell? ⟨wo.heap.size, 1, none⟩ = some (.slice p1 s.ty.length c1) ∧ W.cell? ⟨wr.heap.size, 0, none⟩ = some (.int .i64 u.var)))) (by kernel_rfl) rfl (by kernel_rfl) ⟨(Below.refl _ _).drew, hI2 _ (Below.refl _ _).drew⟩ (fun hHeld => ?_)
                refine take_next (i := 0) (v := ?_) [] (ts' := [0]) rfl (by kernel_rfl) (by kernel_rfl) (by kernel_rfl) (fun _ _ _ h => h) (.inl ⟨by rfl, ?_⟩) (by assumption) (by kernel_rfl) (d := 49) rfl (by simp only [Act.put, List.setIfInBounds_toArray, List.set_cons_zero, List.set_cons_succ]; rfl) ?_
                rotate_left
                · intro w' hSw
                  try dsimp only at hSw
                  go_split_ands
                  go_simp
                  try with_reducible rfl
                refine take_next (i := 1) (v := ?_) [0] (ts' := [0, 1]) rfl (by kernel_rfl) (by kernel_rfl) (by kernel_rfl) (fun _ _ _ h => h) (.inl ⟨by rfl, ?_⟩) (by assumption) (by kernel_rfl) (d := 50) rfl (by simp only [Act.put, List.setIfInBounds_toArray, List.set_cons_zero, List.set_cons_succ]; rfl) ?_
                rotate_left
                · intro w' hSw
                  try dsimp only at hSw
                  go_split_ands
                  go_simp
                  try with_reducible rfl
                refine take_next (i := 3) (v := ?_) [0, 1] (ts' := [0, 1, 3]) rfl (by kernel_rfl) (by kernel_rfl) (by kernel_rfl) (fun _ _ _ h => h) (.inl ⟨by rfl, ?_⟩) (by assumption) (by kernel_rfl) (d := 52) rfl (by simp only [Act.put, List.setIfInBounds_toArray, List.set_cons_zero, List.set_cons_succ]; rfl) ?_
                rotate_left
                · intro w' hSw
                  try dsimp only at hSw
                  go_split_ands
                  go_simp
                  try with_reducible rfl
                refine take_next (i := 4) (v := ?_) [0, 1, 3] (ts' := [0, 1, 3, 4]) rfl (by kernel_rfl) (by kernel_rfl) (by kernel_rfl) (fun _ _ _ h => h) (.inl ⟨by rfl, ?_⟩) (by assumption) (by kernel_rfl) (d := 53) rfl (by simp only [Act.put, List.setIfInBounds_toArray, List.set_cons_zero, List.set_cons_succ]; rfl) ?_
                rotate_left
                · intro w' hSw
                  try dsimp only at hSw
                  go_split_ands
                  go_simp
                  try with_reducible rfl
                refine wpAnyH_ready (rs := [2]) (by kernel_rfl) (by simp) ?_
                refine AllReadyH.cons (o := _) rfl (fun K hK => ?_) AllReadyH.nil
                go_simp
                refine (HV _ hHeld.1).mono ?_
                rintro e w2 ⟨v', rfl, hown, hb2⟩
                dsimp only
                refine hK.out _ _ ⟨below_tr hHeld.1 hb2, hI2 _ (below_tr hHeld.1 hb2)⟩ (fun hHeld => ?_)
                clear hK K
                refine mask_is (n := 6) [0, 1, 3, 4, 2] (by kernel_rfl) ?_
                refine wpAnyH_ready (rs := [5]) (by kernel_rfl) (by simp) ?_
                refine AllReadyH.cons (o := _) rfl (fun K hK => ?_) AllReadyH.nil
                go_simp
                refine (sHas _ _ u.var _ (own_rdi hown hIV)).mono ?_
                rintro e w5 ⟨rfl, hb5⟩
                dsimp only
                refine hK.out _ _ ⟨below_tr hHeld.1 hb5, hI2 _ (below_tr hHeld.1 hb5)⟩ (fun hHeld => ?_)
                clear hK K
                refine mask_is (n := 6) [0, 1, 3, 4, 2, 5] (by kernel_rfl) ?_
                refine wpAnyH_done (by kernel_rfl) ?_ _
                try dsimp only at hHeld
                have bj3 := bj2.trans (hHeld.1.mono bj2.size)
                have HD := Lib.hid ((ascOf_asc (varsOf s.ty)).2 u.var)
                clear hown hb2 hb5 hHeld hI2 HV
                generalize hd : decide (u.var ∈ ascOf (varsOf s.ty)) = d at *
                cases d
                · have hnm : u.var ∉ varsOf s.ty := fun h => by simp [HD.out, h] at hd
                  have HM := Lib.hid (HNV.out hnm)
                  clear hd hnm
                  go_wp2
                  go_roundw
                  case rel => exact ⟨j + 1, by omega, by go_num, HM.out, bj3⟩
                  case measure => simp [intOf]; omega
                · have hmm : u.var ∈ varsOf s.ty := HD.out.1 (by simpa using hd)
                  have HM := Lib.hid (HBad.out hmm)
                  clear hd hmm
                  go_wp2
                  go_ret
                  exact ⟨ret_bool (by rw [subsOkB, propB_f]; exact HM.out), bB.trans (bj3.mono bB.size)⟩
              · obtain rfl : j = l.length := by omega
                rw [List.take_length] at hno
                have HM := Lib.hid (HS.out hno)
                clear hno
                go_wp2
                go_roundw
                case rel => exact ⟨m + 1 + 1, by omega, by go_num, HM.out, bB.trans (hbj.mono bB.size)⟩
                case measure => simp [intOf]; omega
      -- HOLE END
    · obtain rfl : k = l.length := by omega
      have HU := Lib.hid hU
      clear hU hR hR0
      go_wp2
      go_ret
      exact ⟨ret_bool (by rw [subsOkB, propB_t HU.out.all]), hbel⟩
end Go.Proofs.Ytciohamonmmciaa
