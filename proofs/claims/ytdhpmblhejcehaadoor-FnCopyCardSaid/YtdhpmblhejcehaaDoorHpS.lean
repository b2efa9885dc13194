/- The model's check of heaps. -/
import Derived.Test.YtdhpmblhejcehaaDoorHpMath
import Derived.Test.YtdhpmblhejcehaaDoorWrap
import Derived.Test.YtdhpmblhejcehaaDoorOkS
import Derived.Test.YtdhpmblhejcehaaDoorTake
import Derived.Deep.RegionHeld3
namespace Go.Proofs.YtdhpmblhejcehaaDoor
set_option linter.unusedVariables false
set_option maxRecDepth 100000
open Go.ChangeShapes Go.WideShapes Go.ChangeAt Go.RowKit

set_option maxHeartbeats 2000000 in
theorem sVal (pa : Option Addr) (m c : Nat) (v : Vl) (w : World) (hs : v.s.size ≤ maxLen) :
    Calls Tryd.prog 23 #[.slice pa m c, .agg #[.int .i64 v.kind, .int .i64 v.n, .string v.s]] w fun e w' => e = .returned (.bool (valB m v)) ∧ Below w.heap.size w w' := by
  obtain ⟨k, n, s⟩ := v
  simp only at hs
  by_cases h1 : k = 1
  · subst h1
    have HB := Lib.hid (show valB m ⟨1, n, s⟩ = (decide (W n = n) && decide (s.toList = [])) from by simp [valB])
    go_enter Tryd.func23, Tryd.ntmps23
    go_wp2_with fail
    by_cases hW : W n = n
    · go_region_held3 (fun w' => w'.cell? ⟨w.heap.size, 1, none⟩ = some (.int .i64 n) ∧ w'.cell? ⟨w.heap.size, 2, none⟩ = some (.string s))
        (first | exact ⟨by simp, by simp⟩)
        ((go_at_call 40; refine (sWrap _ _).mono ?_; rintro e w1 ⟨rfl, rfl⟩))
      go_wp2
      all_goals
        go_ret
        exact ⟨ret_bool (by rw [HB.out, Bool.eq_iff_iff]; simp_all), (Joins.below_alloc1 w _).drew⟩
    · have hWb : (W n == n) = false := by simpa using hW
      have HF := Lib.hid (show valB m ⟨1, n, s⟩ = false from by rw [HB.out]; simp [hW])
      obtain ⟨O, hO⟩ : ∃ O, O = Obj.cells #[.int .i64 1, .int .i64 n, .string s] 33 := ⟨_, rfl⟩
      have y1 : (w.alloc O).cell? ⟨w.heap.size, 1, none⟩ = some (.int .i64 n) := by rw [hO]; simp
      have bO : Below w.heap.size w (w.alloc O) := Joins.below_alloc1 w O
      have z : w.heap.size < (w.alloc O).heap.size := by simp
      rw [← hO]
      clear hO hW HB
      generalize w.alloc O = W0 at *
      have hI : ∀ W, Below W0.heap.size W0 W → (W.cell? ⟨w.heap.size, 1, none⟩ = some (.int .i64 n)) := fun W hW => (hW.cell (p := ⟨w.heap.size, 1, none⟩) z).trans y1
      have HWr : ∀ X, Below W0.heap.size W0 X → Calls Tryd.prog 40 #[.int .i64 n] X fun e w' => e = .returned (.int .i64 (W n)) ∧ Below X.heap.size X w' := fun X _ => (sWrap n X).mono fun e w' h => ⟨h.1, by rw [← h.2]; exact Below.refl _ _⟩
      refine region_begin (n := 12) (S := (fun W => Below W0.heap.size W0 W ∧ (W.cell? ⟨w.heap.size, 1, none⟩ = some (.int .i64 n)))) (by kernel_rfl) rfl (by kernel_rfl) ⟨(Below.refl _ _).drew, hI _ (Below.refl _ _).drew⟩ (fun hHeld => ?_)
      refine take_next (i := 0) (v := ?_) [] (ts' := [0]) rfl (by kernel_rfl) (by kernel_rfl) (by kernel_rfl) (fun _ _ _ h => h) (.inl ⟨by rfl, ?_⟩) (by assumption) (by kernel_rfl) (d := 9) rfl (by simp only [Act.put, List.setIfInBounds_toArray, List.set_cons_zero, List.set_cons_succ]; rfl) ?_
      rotate_left
      · intro w' hSw
        try dsimp only at hSw
        go_split_ands
        go_simp
        try with_reducible rfl
      refine take_next (i := 1) (v := ?_) [0] (ts' := [0, 1]) rfl (by kernel_rfl) (by kernel_rfl) (by kernel_rfl) (fun _ _ _ h => h) (.inl ⟨by rfl, ?_⟩) (by assumption) (by kernel_rfl) (d := 10) rfl (by simp only [Act.put, List.setIfInBounds_toArray, List.set_cons_zero, List.set_cons_succ]; rfl) ?_
      rotate_left
      · intro w' hSw
        try dsimp only at hSw
        go_split_ands
        go_simp
        try with_reducible rfl
      refine take_next (i := 3) (v := ?_) [0, 1] (ts' := [0, 1, 3]) rfl (by kernel_rfl) (by kernel_rfl) (by kernel_rfl) (fun _ _ _ h => h) (.inl ⟨by rfl, ?_⟩) (by assumption) (by kernel_rfl) (d := 12) rfl (by simp only [Act.put, List.setIfInBounds_toArray, List.set_cons_zero, List.set_cons_succ]; rfl) ?_
      rotate_left
      · intro w' hSw
        try dsimp only at hSw
        go_split_ands
        go_simp
        try with_reducible rfl
      refine take_next (i := 4) (v := ?_) [0, 1, 3] (ts' := [0, 1, 3, 4]) rfl (by kernel_rfl) (by kernel_rfl) (by kernel_rfl) (fun _ _ _ h => h) (.inl ⟨by rfl, ?_⟩) (by assumption) (by kernel_rfl) (d := 13) rfl (by simp only [Act.put, List.setIfInBounds_toArray, List.set_cons_zero, List.set_cons_succ]; rfl) ?_
      rotate_left
      · intro w' hSw
        try dsimp only at hSw
        go_split_ands
        go_simp
        try with_reducible rfl
      refine wpAnyH_ready (rs := [2]) (by kernel_rfl) (by simp) ?_
      refine AllReadyH.cons (o := _) rfl (fun K hK => ?_) AllReadyH.nil
      go_simp
      refine (HWr _ hHeld.1).mono ?_
      rintro e w2 ⟨rfl, hb2⟩
      dsimp only
      refine hK.out _ _ ⟨below_tr hHeld.1 hb2, hI _ (below_tr hHeld.1 hb2)⟩ (fun hHeld => ?_)
      clear hK K
      refine mask_is (n := 12) [0, 1, 3, 4, 2] (by kernel_rfl) ?_
      refine take_next (i := 5) (v := ?_) [0, 1, 3, 4, 2] (ts' := [0, 1, 3, 4, 2, 5]) rfl (by kernel_rfl) (by kernel_rfl) (by kernel_rfl) (fun _ _ _ h => h) (.inl ⟨by rfl, ?_⟩) (by assumption) (by kernel_rfl) (d := 14) rfl (by simp only [Act.put, List.setIfInBounds_toArray, List.set_cons_zero, List.set_cons_succ]; rfl) ?_
      rotate_left
      · intro w' hSw
        try dsimp only at hSw
        go_split_ands
        go_simp
        try with_reducible rfl
      refine take_next (i := 6) (v := ?_) [0, 1, 3, 4, 2, 5] (ts' := [0, 1, 3, 4, 2, 5, 6]) rfl (by kernel_rfl) (by kernel_rfl) (by kernel_rfl) (fun _ _ _ h => h) (.inl ⟨by rfl, ?_⟩) (by assumption) (by kernel_rfl) (d := 15) rfl (by simp only [Act.put, List.setIfInBounds_toArray, List.set_cons_zero, List.set_cons_succ]; rfl) ?_
      rotate_left
      · intro w' hSw
        try dsimp only at hSw
        go_split_ands
        go_simp
        try with_reducible rfl
      refine take_next (i := 7) (v := _) [0, 1, 3, 4, 2, 5, 6] (ts' := [0, 1, 3, 4, 2, 5, 6, 7]) rfl (by kernel_rfl) (by kernel_rfl) (by kernel_rfl) (fun _ _ _ h => h) (.inr ⟨by rfl, rfl⟩) (by assumption) (by kernel_rfl) (d := 16) rfl (by simp only [Act.put, List.setIfInBounds_toArray, List.set_cons_zero, List.set_cons_succ]; rfl) ?_
      refine take_next (i := 8) (v := _) [0, 1, 3, 4, 2, 5, 6, 7] (ts' := [0, 1, 3, 4, 2, 5, 6, 7, 8]) rfl (by kernel_rfl) (by kernel_rfl) (by kernel_rfl) (fun _ _ _ h => h) (.inr ⟨by rfl, rfl⟩) (by assumption) (by kernel_rfl) (d := 17) rfl (by simp only [Act.put, List.setIfInBounds_toArray, List.set_cons_zero, List.set_cons_succ]; rfl) ?_
      refine take_next (i := 9) (v := _) [0, 1, 3, 4, 2, 5, 6, 7, 8] (ts' := [0, 1, 3, 4, 2, 5, 6, 7, 8, 9]) rfl (by kernel_rfl) (by kernel_rfl) (by kernel_rfl) (fun _ _ _ h => h) (.inr ⟨by rfl, rfl⟩) (by assumption) (by kernel_rfl) (d := 18) rfl (by simp only [Act.put, List.setIfInBounds_toArray, List.set_cons_zero, List.set_cons_succ]; rfl) ?_
      refine take_next (i := 10) (v := ?_) [0, 1, 3, 4, 2, 5, 6, 7, 8, 9] (ts' := [0, 1, 3, 4, 2, 5, 6, 7, 8, 9, 10]) rfl (by kernel_rfl) (by kernel_rfl) (by kernel_rfl) (fun _ _ _ h => h) (.inl ⟨by rfl, ?_⟩) (by assumption) (by kernel_rfl) (d := 19) rfl (by simp only [Act.put, List.setIfInBounds_toArray, List.set_cons_zero, List.set_cons_succ]; rfl) ?_
      rotate_left
      · intro w' hSw
        try dsimp only at hSw
        go_split_ands
        go_simp
        try with_reducible rfl
      refine take_next (i := 11) (v := ?_) [0, 1, 3, 4, 2, 5, 6, 7, 8, 9, 10] (ts' := [0, 1, 3, 4, 2, 5, 6, 7, 8, 9, 10, 11]) rfl (by kernel_rfl) (by kernel_rfl) (by kernel_rfl) (fun _ _ _ h => h) (.inl ⟨by rfl, ?_⟩) (by assumption) (by kernel_rfl) (d := 4) rfl (by simp only [Act.put, List.setIfInBounds_toArray, List.set_cons_zero, List.set_cons_succ]; rfl) ?_
      rotate_left
      · intro w' hSw
        try dsimp only at hSw
        go_split_ands
        go_simp
        try with_reducible rfl
      refine wpAnyH_done (by kernel_rfl) ?_ _
      try dsimp only at hHeld
      have hHB := hHeld.1
      go_wp2
      go_ret
      exact ⟨ret_bool HF.out.symm, below_tr bO hHB⟩
  by_cases h2 : k = 2
  · subst h2
    have HB := Lib.hid (show valB m ⟨2, n, s⟩ = decide (n = 0) from by simp [valB])
    clear h1
    go_enter Tryd.func23, Tryd.ntmps23
    go_wp2
    go_ret
    exact ⟨ret_bool (by rw [HB.out, Bool.eq_iff_iff]; simp), Joins.below_alloc1 w _⟩
  by_cases h3 : k = 3 ∨ k = 7
  · have HB := Lib.hid (show ∀ n, valB m ⟨k, n, s⟩ = (decide (n = 0) && decide (s.toList = [])) from fun n => by rcases h3 with rfl | rfl <;> simp [valB])
    clear h1 h2
    rcases h3 with rfl | rfl
    all_goals
      go_enter Tryd.func23, Tryd.ntmps23
      go_wp2
      all_goals
        go_ret
        exact ⟨ret_bool (by rw [HB.out, Bool.eq_iff_iff]; simp_all), Joins.below_alloc1 w _⟩
  by_cases h4 : k = 4 ∨ k = 5
  · have HB := Lib.hid (show ∀ n, valB m ⟨k, n, s⟩ = (decide (n = 0) && !decide (s.toList = [])) from fun n => by rcases h4 with rfl | rfl <;> simp [valB])
    clear h1 h2 h3
    rcases h4 with rfl | rfl
    all_goals
      go_enter Tryd.func23, Tryd.ntmps23
      go_wp2
      all_goals
        go_ret
        exact ⟨ret_bool (by rw [HB.out, Bool.eq_iff_iff]; simp_all), Joins.below_alloc1 w _⟩
  by_cases h6 : k = 6
  · subst h6
    have HB := Lib.hid (show valB m ⟨6, n, s⟩ = (decide (0 ≤ n) && (decide (n < m) && decide (s.toList = []))) from by simp [valB])
    clear h1 h2 h3 h4
    go_enter Tryd.func23, Tryd.ntmps23
    go_wp2
    all_goals
      go_ret
      exact ⟨ret_bool (by rw [HB.out, Bool.eq_iff_iff]; first | (simp_all; done) | (simp; omega) | (simp_all; omega)), Joins.below_alloc1 w _⟩
  · have HB := Lib.hid (show valB m ⟨k, n, s⟩ = false from by rw [valB, if_neg h1, if_neg h2, if_neg h3, if_neg h4, if_neg h6])
    have b1 : (k == 1) = false := by simpa using h1
    have b2 : (k == 2) = false := by simpa using h2
    have b3 : (k == 3) = false := by simp; omega
    have b7 : (k == 7) = false := by simp; omega
    have b4 : (k == 4) = false := by simp; omega
    have b5 : (k == 5) = false := by simp; omega
    have b6 : (k == 6) = false := by simpa using h6
    clear h1 h2 h3 h4 h6
    go_enter Tryd.func23, Tryd.ntmps23
    go_wp2
    go_ret
    exact ⟨ret_bool HB.out.symm, Joins.below_alloc1 w _⟩
end Go.Proofs.YtdhpmblhejcehaaDoor
