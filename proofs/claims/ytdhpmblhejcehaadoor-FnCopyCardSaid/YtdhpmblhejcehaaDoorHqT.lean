/- What the program gathers from its marks: Reach, Sweep. -/
import Derived.Test.YtdhpmblhejcehaaDoorHqS
import Derived.Test.YtdhpmblhejcehaaDoorHqI
namespace Go.Proofs.YtdhpmblhejcehaaDoor
set_option linter.unusedVariables false
set_option maxRecDepth 100000
open Go.ChangeShapes Go.WideShapes Go.ChangeAt Go.RowKit

set_option maxHeartbeats 1000000 in
theorem iIndices (g n : Nat) (f : Nat → Bool) (wb : Bool) (w : World) (hg : g < w.heap.size) (hc : ∀ i, i < n → w.cell? ⟨g, i, none⟩ = some (.bool (f i))) (hn : n ≤ 4000) :
    Calls Tryd.prog 30 #[.slice (some ⟨g, 0, none⟩) n n, .bool wb] w fun e w' => ∃ u, e = .returned u ∧ w'.ownsRow w.heap.size 3 1 u (placesL (fun i => f i == wb) n).length (ic (placesL (fun i => f i == wb) n)) ∧ Below w.heap.size w w' := by
  obtain ⟨i0, hi, hz0', hz1', hz2'⟩ := info_parts info_int1
  have own0 : (w.alloc (.cells #[] 3)).ownsRow w.heap.size 3 1 (.slice (some ⟨w.heap.size, 0, none⟩) 0 0) 0 (ic []) := World.ownsRow_lit w #[] 0 (Nat.le_refl _) (by decide) rfl
  go_enter Tryd.func30, Tryd.ntmps30
  go_wp2
  go_loopw [5, 11] (fun out i wr => ∃ k : Nat, i = .int .i64 k ∧ k ≤ n ∧ wr.ownsRow w.heap.size 3 1 out (placesL (fun i => f i == wb) k).length (ic (placesL (fun i => f i == wb) k)) ∧ Below w.heap.size w wr) (fun _ i _ => n - (intOf i).toNat)
  case atStart => exact ⟨0, rfl, Nat.zero_le _, own0, Joins.below_alloc1 w _⟩
  case round =>
    obtain ⟨k, rfl, hk, hown, hbel⟩ := hrel
    have hpl := placesL_len (fun i => f i == wb) k
    have hsz := hbel.size
    by_cases hlt : k < n
    · have q := (hbel.cell (p := ⟨g, k, none⟩) hg).trans (hc k hlt)
      have HS := Lib.hid (show placesL (fun i => f i == wb) (k + 1) = placesL (fun i => f i == wb) k ++ (if (f k == wb) = true then [(k : Int)] else []) from rfl)
      clear hc own0
      generalize f k = fk at *
      generalize hP : placesL (fun i => f i == wb) k = P at *
      cases hx : (fk == wb)
      · simp only [hx, Bool.false_eq_true, if_false, List.append_nil] at HS
        go_wp2
        go_roundw
        case rel => exact ⟨k + 1, by go_num, by omega, by rw [HS.out]; exact hown, hbel⟩
        case measure => simp [intOf]; omega
      · simp only [hx, if_true] at HS
        go_wp2_with (at_builtin; refine wpList_append_own _ rfl (.tmp 19) (.tmp 21) 29 rfl w.heap.size 3 i0 (.int .i64 0) 1 8 Tryd.underlying29 hi hz0' hz1' hz2' rfl (by decide) _ P.length (ic P) rfl (hown.alloc _) ⟨wr.heap.size, 0, none⟩ 1 1 [.int .i64 k] rfl rfl (new_cells _ _ _ _ rfl) (ic_one [(k : Int)]) (by unfold maxLen; omega) (by omega) (by simp; omega) ?_; intro v2 w7 hown7 hgrow7 _)
        have R := own_app hown hbel (Nat.le_refl _) hsz hgrow7
        have hown8 := hp_ints rfl rfl (l' := [(k : Int)]) rfl rfl hown7
        clear hown7 hgrow7
        go_roundw
        case rel => exact ⟨k + 1, by go_num, by omega, by rw [HS.out]; exact hown8, R.1⟩
        case measure => simp [intOf]; omega
    · obtain rfl : k = n := by omega
      clear hc own0
      go_wp2
      go_ret
      exact ⟨_, rfl, hown, hbel⟩
theorem placesL_true (f : Nat → Bool) (n : Nat) : placesL (fun i => f i == true) n = placesL f n := placesL_congr n (fun i _ => by cases f i <;> rfl)
theorem placesL_false (f : Nat → Bool) (n : Nat) : placesL (fun i => f i == false) n = placesL (fun i => !f i) n := placesL_congr n (fun i _ => by cases f i <;> rfl)
theorem nil_row (w : World) : RowPost 1 (Flat IntEl) [] w (.returned (.slice none 0 0)) w := ⟨_, [], rfl, .inl ⟨rfl, rfl, _, _, rfl⟩, by simp, by simp, Below.refl _ _⟩
theorem row_bel {w w1 w' : World} {l : List Int} {e : Ending} (h : RowPost 1 (Flat IntEl) l w1 e w') (hb : Below w.heap.size w w1) : RowPost 1 (Flat IntEl) l w e w' := by
  obtain ⟨v, F, h1, h2, h3, h4, h5⟩ := h
  exact ⟨v, F, h1, h2, fun g hg => Nat.le_trans hb.size (h3 g hg), h4, below_tr hb h5⟩
set_option maxHeartbeats 1000000 in
theorem iReachC (h : List Ce) (r : List Vl) (v0 v1 : Value) (w : World) (h0 : RowRd 9 CeEl w v0 h) (h1 : RowRd 3 VlEl w v1 r) (hz0 : bulkL bCe h ≤ 1048576) (hz1 : bulkL bVl r ≤ 1048576) :
    Calls Tryd.prog 9 #[v0, v1] w (RowPost 1 (Flat IntEl) (resReach h r) w) := by
  have hrl := Nat.le_trans (bulkL_len bVl r) hz1
  have HOK := Lib.hid (iHeapOk h r v0 v1 w h0 h1)
  have HMK := fun (hb : heapB h r = true) W (hW : Below w.heap.size w W) => Lib.hid (iReached h r v0 v1 W (h0.kept CeEl.st (Kept.of_below hW)) (h1.kept VlEl.st (Kept.of_below hW)) hb hrl)
  obtain ⟨a0, c0, rfl, hm0, -⟩ := h0.form
  obtain ⟨a1, c1, rfl, hm1, -⟩ := h1.form
  clear h0 h1
  cases hb : heapB h r
  · rw [hb] at HOK
    have HB := Lib.hid (show resReach h r = [] from by simp [resReach, hb])
    clear HMK
    go_enter Tryd.func9, Tryd.ntmps9
    go_wp2_with fail
    refine HOK.out.mono ?_
    rintro e w1 ⟨rfl, hb1⟩
    go_wp2
    go_ret
    rw [HB.out]
    exact row_bel (nil_row _) hb1
  · rw [hb] at HOK
    have HMK2 := fun W hW => HMK hb W hW
    have HB := Lib.hid (show resReach h r = placesL (rchB h r) h.length from by simp [resReach, hb])
    have hl4 := heap_len hb
    clear HMK hb
    go_enter Tryd.func9, Tryd.ntmps9
    go_wp2_with fail
    refine HOK.out.mono ?_
    rintro e w1 ⟨rfl, hb1⟩
    go_wp2_with fail
    refine (HMK2 _ hb1).out.mono ?_
    rintro e w2 ⟨g, rfl, hg, hglt, hglo, hb2⟩
    have B2 := below_tr hb1 hb2
    have HI := Lib.hid (iIndices g h.length (rchB h r) true w2 hglt hg hl4)
    clear hg HMK2 HOK
    go_wp2_with fail
    refine HI.out.mono ?_
    rintro e w3 ⟨u, rfl, hown, hb3⟩
    rw [placesL_true] at hown
    have HP := Lib.hid (hp_row hown (placesL_I64 _ _ (by omega)) (Nat.le_refl _) hb3)
    clear hown HI
    go_wp2
    go_ret
    rw [HB.out]
    exact row_bel HP.out B2
set_option maxHeartbeats 1000000 in
theorem iSweepC (h : List Ce) (r : List Vl) (v0 v1 : Value) (w : World) (h0 : RowRd 9 CeEl w v0 h) (h1 : RowRd 3 VlEl w v1 r) (hz0 : bulkL bCe h ≤ 1048576) (hz1 : bulkL bVl r ≤ 1048576) :
    Calls Tryd.prog 11 #[v0, v1] w (RowPost 1 (Flat IntEl) (resSweep h r) w) := by
  have hrl := Nat.le_trans (bulkL_len bVl r) hz1
  have HOK := Lib.hid (iHeapOk h r v0 v1 w h0 h1)
  have HMK := fun (hb : heapB h r = true) W (hW : Below w.heap.size w W) => Lib.hid (iReached h r v0 v1 W (h0.kept CeEl.st (Kept.of_below hW)) (h1.kept VlEl.st (Kept.of_below hW)) hb hrl)
  obtain ⟨a0, c0, rfl, hm0, -⟩ := h0.form
  obtain ⟨a1, c1, rfl, hm1, -⟩ := h1.form
  clear h0 h1
  cases hb : heapB h r
  · rw [hb] at HOK
    have HB := Lib.hid (show resSweep h r = [] from by simp [resSweep, hb])
    clear HMK
    go_enter Tryd.func11, Tryd.ntmps11
    go_wp2_with fail
    refine HOK.out.mono ?_
    rintro e w1 ⟨rfl, hb1⟩
    go_wp2
    go_ret
    rw [HB.out]
    exact row_bel (nil_row _) hb1
  · rw [hb] at HOK
    have HMK2 := fun W hW => HMK hb W hW
    have HB := Lib.hid (show resSweep h r = placesL (fun i => !rchB h r i) h.length from by simp [resSweep, hb])
    have hl4 := heap_len hb
    clear HMK hb
    go_enter Tryd.func11, Tryd.ntmps11
    go_wp2_with fail
    refine HOK.out.mono ?_
    rintro e w1 ⟨rfl, hb1⟩
    go_wp2_with fail
    refine (HMK2 _ hb1).out.mono ?_
    rintro e w2 ⟨g, rfl, hg, hglt, hglo, hb2⟩
    have B2 := below_tr hb1 hb2
    have HI := Lib.hid (iIndices g h.length (rchB h r) false w2 hglt hg hl4)
    clear hg HMK2 HOK
    go_wp2_with fail
    refine HI.out.mono ?_
    rintro e w3 ⟨u, rfl, hown, hb3⟩
    rw [placesL_false] at hown
    have HP := Lib.hid (hp_row hown (placesL_I64 _ _ (by omega)) (Nat.le_refl _) hb3)
    clear hown HI
    go_wp2
    go_ret
    rw [HB.out]
    exact row_bel HP.out B2
end Go.Proofs.YtdhpmblhejcehaaDoor
