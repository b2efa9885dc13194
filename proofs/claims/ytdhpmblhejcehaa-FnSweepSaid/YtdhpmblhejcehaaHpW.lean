/- What the model gathers from its marks: Reach, Sweep. -/
import Derived.Test.YtdhpmblhejcehaaHpV
import Derived.Test.YtdhpmblhejcehaaOwnRow
import Derived.Test.YtdhpmblhejcehaaMkData
import Derived.Maps.AppendAt
namespace Go.Proofs.Ytdhpmblhejcehaa
set_option linter.unusedVariables false
set_option maxRecDepth 100000
open Go.ChangeShapes Go.WideShapes Go.ChangeAt Go.RowKit

theorem info_int1 : (Try.prog.info? 3).map (fun i => (i.zero, i.size, i.bytes)) = some (some (.int .i64 0), 1, 8) := by kernel_rfl
theorem hp_ints {B e m : Nat} {w1 : World} {v' : Value} {l l' : List Int} {n : Nat} {xs news : List Value} (hn : n = l.length) (hxs : xs = ic l) (hnews : news = ic l') (hm : m = l'.length) (hown' : w1.ownsRow B e 1 v' (n + m) (xs ++ news)) :
    w1.ownsRow B e 1 v' (l ++ l').length (ic (l ++ l')) := by
  subst hn hxs hnews hm; rw [ic_app, List.length_append]; exact hown'
/-- A row of numbers that a call made, handed back. -/
theorem hp_row {B : Nat} {w w' : World} {v : Value} {l : List Int} (h : w'.ownsRow B 3 1 v l.length (ic l)) (hI : ∀ x ∈ l, I64 x) (hB : w.heap.size ≤ B) (hb : Below w.heap.size w w') : RowPost 1 (Flat IntEl) l w (.returned v) w' := by
  obtain ⟨F, hF, hlo, hnd⟩ := own_ints h hI
  exact ⟨v, F, rfl, hF, fun g hg => Nat.le_trans hB (hlo g hg), hnd, hb⟩
set_option maxHeartbeats 1000000 in
theorem sReachC (h : List Ce) (r : List Vl) (v0 v1 : Value) (w : World) (h0 : RowRd 9 CeEl w v0 h) (h1 : RowRd 3 VlEl w v1 r) (hz0 : bulkL bCe h ≤ 1048576) (hz1 : bulkL bVl r ≤ 1048576) :
    Calls Try.prog 14 #[v0, v1] w (RowPost 1 (Flat IntEl) (resReach h r) w) := by
  obtain ⟨i0, hi, hz0', hz1', hz2'⟩ := info_parts info_int1
  have HOK := fun W (hW : Below w.heap.size w W) => Lib.hid (sHeapOk h r v0 v1 W (h0.kept CeEl.st (Kept.of_below hW)) (h1.kept VlEl.st (Kept.of_below hW)))
  have HMK := fun (hb : heapB h r = true) W (hW : Below w.heap.size w W) => Lib.hid (sMarks h r v0 v1 W (h0.kept CeEl.st (Kept.of_below hW)) (h1.kept VlEl.st (Kept.of_below hW)) hb)
  obtain ⟨a0, c0, rfl, hm0, -⟩ := h0.form
  obtain ⟨a1, c1, rfl, hm1, -⟩ := h1.form
  clear h0 h1
  obtain ⟨O, hO⟩ : ∃ O, O = Obj.cells #[] 3 := ⟨_, rfl⟩
  have bO : Below w.heap.size w (w.alloc O) := Joins.below_alloc1 w O
  have own0 : (w.alloc O).ownsRow w.heap.size 3 1 (.slice (some ⟨w.heap.size, 0, none⟩) 0 0) 0 (ic []) := by rw [hO]; exact World.ownsRow_lit w #[] 0 (Nat.le_refl _) (by decide) rfl
  have z0 : (w.alloc O).heap.size = w.heap.size + 1 := by simp
  cases hb : heapB h r
  · rw [hb] at HOK
    have HB := Lib.hid (show resReach h r = [] from by simp [resReach, hb])
    clear HMK
    go_enter Try.func14, Try.ntmps14
    go_wp2_with fail
    rw [← hO]
    clear hO
    generalize w.alloc O = W at *
    refine (HOK _ bO).out.mono ?_
    rintro e w1 ⟨rfl, hb1⟩
    go_wp2
    go_ret
    rw [HB.out]
    exact hp_row (own_below own0 hb1) (by simp) (Nat.le_refl _) (below_tr bO hb1)
  · rw [hb] at HOK
    have HMK2 := fun W hW => HMK hb W hW
    have HB := Lib.hid (show resReach h r = placesL (rchB h r) h.length from by simp [resReach, hb])
    have hl4 := heap_len hb
    clear HMK hb
    go_enter Try.func14, Try.ntmps14
    go_wp2_with fail
    rw [← hO]
    clear hO
    generalize w.alloc O = W at *
    refine (HOK _ bO).out.mono ?_
    rintro e w1 ⟨rfl, hb1⟩
    have B1 := below_tr bO hb1
    have own1 := own_below own0 hb1
    have z1 := hb1.size
    go_wp2_with fail
    refine (HMK2 _ B1).out.mono ?_
    rintro e w2 ⟨g, rfl, hg, hglt, hglo, hb2⟩
    have B2 := below_tr B1 hb2
    have own2 := own_below own1 hb2
    have z2 := hb2.size
    clear HOK HMK2 own0 own1 hb1 hb2 B1 bO
    go_wp2
    go_loopw [5, 18] (fun out i wr => ∃ k : Nat, i = .int .i64 k ∧ k ≤ h.length ∧ wr.ownsRow w.heap.size 3 1 out (placesL (rchB h r) k).length (ic (placesL (rchB h r) k)) ∧ out.ownBlock ≠ some g ∧ (∀ j, j < h.length → wr.cell? ⟨g, j, none⟩ = some (.bool (rchB h r j))) ∧ Below w.heap.size w wr ∧ w2.heap.size ≤ wr.heap.size) (fun _ i _ => h.length - (intOf i).toNat)
    case atStart => exact ⟨0, rfl, Nat.zero_le _, own2, (fun e => by simp [Value.ownBlock] at e; omega), hg, B2, Nat.le_refl _⟩
    case round =>
      clear own2 hg B2
      obtain ⟨k, rfl, hk, hown, hne, hg, hbel, hsz⟩ := hrel
      have hpl := placesL_len (rchB h r) k
      by_cases hlt : k < h.length
      · have q := hg k hlt
        have HS := Lib.hid (show placesL (rchB h r) (k + 1) = placesL (rchB h r) k ++ (if (rchB h r) k = true then [(k : Int)] else []) from rfl)
        have HG := Lib.hid hg
        clear hg
        cases hx : rchB h r k
        all_goals
          rw [hx] at q
          simp only [hx, if_true, Bool.false_eq_true, if_false, List.append_nil] at HS
          first
            | (go_wp2
               go_roundw
               case rel => exact ⟨k + 1, by go_num, by omega, by rw [HS.out]; exact hown, hne, HG.out, hbel, hsz⟩
               case measure => simp [intOf]; omega
               done)
            | (go_wp2_with (at_builtin; refine wpList_append_own_at _ rfl (.tmp 24) (.tmp 26) 27 rfl w.heap.size 3 i0 (.int .i64 0) 1 8 Try.underlying27 hi hz0' hz1' hz2' rfl (by decide) _ (placesL (rchB h r) k).length (ic (placesL (rchB h r) k)) rfl (hown.alloc _) ⟨wr.heap.size, 0, none⟩ 1 1 [.int .i64 k] rfl rfl (new_cells _ _ _ _ rfl) (ic_one [(k : Int)]) (by unfold maxLen; omega) (by omega) (by have := hbel.size; simp; omega) ?_; intro v2 w7 hown7 hgrow7 _ hat7)
               have R := own_app hown hbel (Nat.le_refl _) hbel.size hgrow7
               have hown8 := hp_ints rfl rfl (l' := [(k : Int)]) rfl rfl hown7
               have hne7 : v2.ownBlock ≠ some g := by
                 rcases hat7 with e | e
                 · rw [e]; exact hne
                 · rw [e]; simp; omega
               have HG7 := Lib.hid (fun j (hj : j < h.length) => (World.cell?_of_block (a := ⟨g, j, none⟩) ((hgrow7.block g (by simp; omega) (fun e => hne e.symm)).trans ((Joins.below_alloc1 wr _).block g (by omega)))).trans (HG.out j hj))
               have hz7 := hgrow7.size
               simp at hz7
               clear hown7 hgrow7 hat7
               go_roundw
               case rel => exact ⟨k + 1, by go_num, by omega, by rw [HS.out]; exact hown8, hne7, HG7.out, R.1, by omega⟩
               case measure => simp [intOf]; omega
               done)
      · obtain rfl : k = h.length := by omega
        clear hg
        go_wp2
        go_ret
        rw [HB.out]
        exact hp_row hown (placesL_I64 _ _ (by omega)) (Nat.le_refl _) hbel
set_option maxHeartbeats 1000000 in
theorem sSweepC (h : List Ce) (r : List Vl) (v0 v1 : Value) (w : World) (h0 : RowRd 9 CeEl w v0 h) (h1 : RowRd 3 VlEl w v1 r) (hz0 : bulkL bCe h ≤ 1048576) (hz1 : bulkL bVl r ≤ 1048576) :
    Calls Try.prog 30 #[v0, v1] w (RowPost 1 (Flat IntEl) (resSweep h r) w) := by
  obtain ⟨i0, hi, hz0', hz1', hz2'⟩ := info_parts info_int1
  have HOK := fun W (hW : Below w.heap.size w W) => Lib.hid (sHeapOk h r v0 v1 W (h0.kept CeEl.st (Kept.of_below hW)) (h1.kept VlEl.st (Kept.of_below hW)))
  have HMK := fun (hb : heapB h r = true) W (hW : Below w.heap.size w W) => Lib.hid (sMarks h r v0 v1 W (h0.kept CeEl.st (Kept.of_below hW)) (h1.kept VlEl.st (Kept.of_below hW)) hb)
  obtain ⟨a0, c0, rfl, hm0, -⟩ := h0.form
  obtain ⟨a1, c1, rfl, hm1, -⟩ := h1.form
  clear h0 h1
  obtain ⟨O, hO⟩ : ∃ O, O = Obj.cells #[] 3 := ⟨_, rfl⟩
  have bO : Below w.heap.size w (w.alloc O) := Joins.below_alloc1 w O
  have own0 : (w.alloc O).ownsRow w.heap.size 3 1 (.slice (some ⟨w.heap.size, 0, none⟩) 0 0) 0 (ic []) := by rw [hO]; exact World.ownsRow_lit w #[] 0 (Nat.le_refl _) (by decide) rfl
  have z0 : (w.alloc O).heap.size = w.heap.size + 1 := by simp
  cases hb : heapB h r
  · rw [hb] at HOK
    have HB := Lib.hid (show resSweep h r = [] from by simp [resSweep, hb])
    clear HMK
    go_enter Try.func30, Try.ntmps30
    go_wp2_with fail
    rw [← hO]
    clear hO
    generalize w.alloc O = W at *
    refine (HOK _ bO).out.mono ?_
    rintro e w1 ⟨rfl, hb1⟩
    go_wp2
    go_ret
    rw [HB.out]
    exact hp_row (own_below own0 hb1) (by simp) (Nat.le_refl _) (below_tr bO hb1)
  · rw [hb] at HOK
    have HMK2 := fun W hW => HMK hb W hW
    have HB := Lib.hid (show resSweep h r = placesL (fun i => !rchB h r i) h.length from by simp [resSweep, hb])
    have hl4 := heap_len hb
    clear HMK hb
    go_enter Try.func30, Try.ntmps30
    go_wp2_with fail
    rw [← hO]
    clear hO
    generalize w.alloc O = W at *
    refine (HOK _ bO).out.mono ?_
    rintro e w1 ⟨rfl, hb1⟩
    have B1 := below_tr bO hb1
    have own1 := own_below own0 hb1
    have z1 := hb1.size
    go_wp2_with fail
    refine (HMK2 _ B1).out.mono ?_
    rintro e w2 ⟨g, rfl, hg, hglt, hglo, hb2⟩
    have B2 := below_tr B1 hb2
    have own2 := own_below own1 hb2
    have z2 := hb2.size
    clear HOK HMK2 own0 own1 hb1 hb2 B1 bO
    go_wp2
    go_loopw [5, 18] (fun out i wr => ∃ k : Nat, i = .int .i64 k ∧ k ≤ h.length ∧ wr.ownsRow w.heap.size 3 1 out (placesL (fun i => !rchB h r i) k).length (ic (placesL (fun i => !rchB h r i) k)) ∧ out.ownBlock ≠ some g ∧ (∀ j, j < h.length → wr.cell? ⟨g, j, none⟩ = some (.bool (rchB h r j))) ∧ Below w.heap.size w wr ∧ w2.heap.size ≤ wr.heap.size) (fun _ i _ => h.length - (intOf i).toNat)
    case atStart => exact ⟨0, rfl, Nat.zero_le _, own2, (fun e => by simp [Value.ownBlock] at e; omega), hg, B2, Nat.le_refl _⟩
    case round =>
      clear own2 hg B2
      obtain ⟨k, rfl, hk, hown, hne, hg, hbel, hsz⟩ := hrel
      have hpl := placesL_len (fun i => !rchB h r i) k
      by_cases hlt : k < h.length
      · have q := hg k hlt
        have HS := Lib.hid (show placesL (fun i => !rchB h r i) (k + 1) = placesL (fun i => !rchB h r i) k ++ (if (fun i => !rchB h r i) k = true then [(k : Int)] else []) from rfl)
        have HG := Lib.hid hg
        clear hg
        cases hx : rchB h r k
        all_goals
          rw [hx] at q
          simp only [hx, Bool.not_true, Bool.not_false, if_true, Bool.false_eq_true, if_false, List.append_nil] at HS
          first
            | (go_wp2
               go_roundw
               case rel => exact ⟨k + 1, by go_num, by omega, by rw [HS.out]; exact hown, hne, HG.out, hbel, hsz⟩
               case measure => simp [intOf]; omega
               done)
            | (go_wp2_with (at_builtin; refine wpList_append_own_at _ rfl (.tmp 25) (.tmp 27) 27 rfl w.heap.size 3 i0 (.int .i64 0) 1 8 Try.underlying27 hi hz0' hz1' hz2' rfl (by decide) _ (placesL (fun i => !rchB h r i) k).length (ic (placesL (fun i => !rchB h r i) k)) rfl (hown.alloc _) ⟨wr.heap.size, 0, none⟩ 1 1 [.int .i64 k] rfl rfl (new_cells _ _ _ _ rfl) (ic_one [(k : Int)]) (by unfold maxLen; omega) (by omega) (by have := hbel.size; simp; omega) ?_; intro v2 w7 hown7 hgrow7 _ hat7)
               have R := own_app hown hbel (Nat.le_refl _) hbel.size hgrow7
               have hown8 := hp_ints rfl rfl (l' := [(k : Int)]) rfl rfl hown7
               have hne7 : v2.ownBlock ≠ some g := by
                 rcases hat7 with e | e
                 · rw [e]; exact hne
                 · rw [e]; simp; omega
               have HG7 := Lib.hid (fun j (hj : j < h.length) => (World.cell?_of_block (a := ⟨g, j, none⟩) ((hgrow7.block g (by simp; omega) (fun e => hne e.symm)).trans ((Joins.below_alloc1 wr _).block g (by omega)))).trans (HG.out j hj))
               have hz7 := hgrow7.size
               simp at hz7
               clear hown7 hgrow7 hat7
               go_roundw
               case rel => exact ⟨k + 1, by go_num, by omega, by rw [HS.out]; exact hown8, hne7, HG7.out, R.1, by omega⟩
               case measure => simp [intOf]; omega
               done)
      · obtain rfl : k = h.length := by omega
        clear hg
        go_wp2
        go_ret
        rw [HB.out]
        exact hp_row hown (placesL_I64 _ _ (by omega)) (Nat.le_refl _) hbel
theorem cntL_ints (l : List Int) : cntL cInt l = l.length := by
  induction l with
  | nil => rfl
  | cons x l ih => simp only [cntL, cInt, List.length_cons, ih]; omega
theorem Reach_cnt (h : List Ce) (r : List Vl) (hz0 : bulkL bCe h ≤ 1048576) (hz1 : bulkL bVl r ≤ 1048576) : 1 + cntL cInt (resReach h r) ≤ 1000000000000 := by
  have hl := bulkL_len bCe h
  rw [cntL_ints]
  unfold resReach
  split
  · have := placesL_len (rchB h r) h.length; omega
  · simp
theorem Sweep_cnt (h : List Ce) (r : List Vl) (hz0 : bulkL bCe h ≤ 1048576) (hz1 : bulkL bVl r ≤ 1048576) : 1 + cntL cInt (resSweep h r) ≤ 1000000000000 := by
  have hl := bulkL_len bCe h
  rw [cntL_ints]
  unfold resSweep
  split
  · have := placesL_len (fun i => !rchB h r i) h.length; omega
  · simp
end Go.Proofs.Ytdhpmblhejcehaa
