/- Texts of this proof, merged: QpI, QpK, QpL, QpP, QpV. -/
import Derived.Test.YtbehcmogndpkhaaGreatDoorM17
namespace Go.Proofs.YtbehcmogndpkhaaGreatDoor
set_option linter.unusedVariables false
set_option maxRecDepth 100000
open Go.ChangeShapes Go.WideShapes Go.ChangeAt Go.RowKit

theorem nd_name {x : Nd} (h : isNodeB x = true) (hk : x.kind ≠ 2) : x.s.size ≤ 12 := by
  simp only [isNodeB, Bool.and_eq_true] at h
  obtain ⟨_, _, h, _, _⟩ := h
  have h2 : x.s.toList.length = x.s.size := by rw [pr_toList]; rfl
  unfold rsB at h
  rw [if_neg hk] at h
  split at h
  · exact nm_len (.inl h)
  · split at h
    · unfold conOkB at h
      split at h
      · rename_i hh; rw [hh] at h2; simp at h2; omega
      · split at h
        · rename_i hh; rcases hh with hh | hh | hh <;> (rw [hh] at h2; simp at h2; omega)
        · simp only [Bool.and_eq_true] at h
          exact nm_len (.inr h.1)
    · split at h
      · unfold primB prims at h
        simp only [List.any_cons, List.any_nil, Bool.or_false, Bool.or_eq_true, beq_iff_eq] at h
        rcases h with h | h | h | h | h | h | h | h | h | h <;> (rw [h] at h2; simp at h2; omega)
      · simp only [decide_eq_true_eq] at h; rw [h] at h2; simp at h2; omega
set_option maxHeartbeats 40000000 in
theorem iNodeTexts (x : Nd) (pk pq : Option Addr) (ck cq : Nat) (w : World) (hn : isNodeB x = true) (hs : x.s.size ≤ 1048576) (hR : RowRd 1 PatEl w (.slice pq x.pats.length cq) x.pats) (hzp : ∀ q ∈ x.pats, bPat q ≤ 1048576) (hpl : x.pats.length ≤ 1048576) (hE : TabE w) :
    Calls Tryz.prog 31 #[.agg #[.int .i64 x.kind, .int .i64 x.at_, .int .i64 x.n, .string x.s, .slice pk x.kids.length ck, .slice pq x.pats.length cq]] w (TxPost w (NT x)) := by
  have hM : x.kind = 13 → ∀ W, Kept w W → Below w.heap.size w W → Hid (Calls Tryz.prog 75 #[.slice pq x.pats.length cq] W (TxPost W (matchT x.pats))) := fun h13 W hK hb => by
    have hp := hn
    simp only [isNodeB, Bool.and_eq_true] at hp
    obtain ⟨_, _, _, _, hp⟩ := hp
    unfold rpB at hp
    rw [if_pos h13] at hp
    simp only [Bool.and_eq_true, List.all_eq_true] at hp
    exact Lib.hid (iMatchTexts x.pats _ W (hR.kept PatEl.st hK) hzp hp.2 hpl (hE.below hb))
  have hkr := nk_range hn
  have hnm : x.kind ≠ 2 → x.s.size ≤ 12 := nd_name hn
  clear hR hzp hpl
  rcases hkr with hk | hk | hk | hk | hk | hk | hk | hk | hk | hk | hk | hk | hk | hk | hk | hk | hk | hk | hk
  · -- kind 1
    have hi6 := nk_int hn
    have hl0 : -4611686018427387904 ≤ x.n ∧ x.n ≤ 4611686018427387903 := by
      simp only [isNodeB, Bool.and_eq_true] at hn
      obtain ⟨_, h, _⟩ := hn
      unfold rnB at h
      rw [if_pos hk] at h
      simp at h; omega
    have HB := Lib.hid (show strs (NT x) = [⟨(numL x.n).toArray⟩] from by unfold NT nodeT; rw [if_pos hk]; rfl)
    have hl := numL_len24 x.n hl0.1 hl0.2
    have HN := fun (O : Obj) => Lib.hid (iNumText x.n (w.alloc O) hi6 (tab_below hE.t (Joins.below_alloc1 w O)))
    rw [hk]
    clear hn hE hM hnm
    generalize numL x.n = t at *
    go_enter Tryz.func31, Tryz.ntmps31
    go_wp2_with (go_at_call 72; go_loud (refine (HN _).out.mono ?_); rintro e w1 ⟨rfl, hb⟩)
    go_ret
    refine ⟨_, rfl, ?_, ?_, (below_tr (Joins.below_alloc1 w _) hb).trans ((Joins.below_alloc1 w1 _).mono (by have := hb.size; simp at this; omega))⟩
    · rw [HB.out]; exact lit_strs rfl rfl rfl (all1 (sz_ok _ (by omega))) (by simp; unfold maxLen; omega)
    · rw [HB.out]; exact lit_own rfl (by have := hb.size; simp at this; omega) rfl rfl (by simp; unfold maxLen; omega)
  · -- kind 2
    have HB := Lib.hid (show strs (NT x) = [⟨(quoteL x.s.data.toList).toArray⟩] from by unfold NT nodeT; rw [if_neg (by omega), if_pos hk, pr_toList]; rfl)
    have hl := quoteL_len x.s hs
    rw [pr_toList] at hl
    have HN := fun (O : Obj) => Lib.hid (iQuote x.s (w.alloc O) hs)
    rw [hk]
    clear hn hE hM hnm
    generalize quoteL x.s.data.toList = t at *
    go_enter Tryz.func31, Tryz.ntmps31
    go_wp2_with (go_at_call 73; go_loud (refine (HN _).out.mono ?_); rintro e w1 ⟨rfl, hb⟩)
    go_ret
    refine ⟨_, rfl, ?_, ?_, (below_tr (Joins.below_alloc1 w _) hb).trans ((Joins.below_alloc1 w1 _).mono (by have := hb.size; simp at this; omega))⟩
    · rw [HB.out]; exact lit_strs rfl rfl rfl (all1 (sz_ok5 _ (by omega))) (by simp; unfold maxLen; omega)
    · rw [HB.out]; exact lit_own rfl (by have := hb.size; simp at this; omega) rfl rfl (by simp; unfold maxLen; omega)
  · -- kind 3
    have HB := Lib.hid (show strs (NT x) = [x.s] from by unfold NT nodeT; rw [if_neg (by omega), if_neg (by omega), if_pos hk, pr_toList]; rfl)
    have h12 := hnm (by omega)
    rw [hk]
    clear hn hE hM hnm
    go_enter Tryz.func31, Tryz.ntmps31
    go_wp2
    go_ret
    refine ⟨_, rfl, ?_, ?_, Joins.below_alloc2 w _ _⟩
    · rw [HB.out]; exact lit_strs (by simp) rfl rfl (all1 (by unfold maxLen; omega)) (by simp; unfold maxLen; omega)
    · rw [HB.out]; exact lit_own (by simp) (by simp) rfl rfl (by simp; unfold maxLen; omega)
  · -- kind 4
    have h12 := hnm (by omega)
    have HB := Lib.hid (show NT x = conT x.s.toList x.kids.length from by unfold NT nodeT conT; rw [if_neg (by omega), if_neg (by omega), if_neg (by omega), if_pos hk])
    have HC := fun W => Lib.hid (iConTexts x.s x.kids.length W h12)
    rw [hk]
    clear hn hE hM hnm
    go_enter Tryz.func31, Tryz.ntmps31
    go_wp2_with (go_at_call 74; go_loud (refine (HC _).out.mono ?_); rintro e w1 ⟨v1, rfl, r1, o1, hb⟩)
    go_ret
    rw [HB.out]
    exact ⟨_, rfl, r1, own_down o1 (by simp), below_tr (Joins.below_alloc1 w _) hb⟩
  · -- kind 5
    have h12 := hnm (by omega)
    have hnd : x.s.data.toList.length ≤ 12 := h12
    have HB := Lib.hid (show strs (NT x) = [⟨(cat [⟨#[40, 102, 117, 110, 32]⟩, x.s, ⟨#[32, 45, 62, 32]⟩]).toArray⟩, ⟨#[41]⟩] from by unfold NT nodeT; rw [if_neg (by omega), if_neg (by omega), if_neg (by omega), if_neg (by omega), if_pos hk, pr_toList]; simp [strs, cat])
    have hcl : (cat [⟨#[40, 102, 117, 110, 32]⟩, x.s, ⟨#[32, 45, 62, 32]⟩]).length ≤ 100 := by simp [cat]; omega
    have HJ := Lib.hid fun (W : World) (n : Nat) (hn : n = W.heap.size) => joined n 0 3 [⟨#[40, 102, 117, 110, 32]⟩, x.s, ⟨#[32, 45, 62, 32]⟩] (W.alloc (.cells #[.string ⟨#[40, 102, 117, 110, 32]⟩, .string x.s, .string ⟨#[32, 45, 62, 32]⟩] 9)) (strs_at _ _ _ _ _ hn rfl) (by simp [hn]) (by simp) (by simp) (by omega)
    rw [hk]
    clear hn hE hM
    generalize cat [⟨#[40, 102, 117, 110, 32]⟩, x.s, ⟨#[32, 45, 62, 32]⟩] = t at *
    go_enter Tryz.func31, Tryz.ntmps31
    go_wp2_with (go_at_call 27; go_loud (refine (HJ.out _ _ (by simp)).mono ?_); rintro e w1 ⟨rfl, hb⟩)
    go_ret
    refine ⟨_, rfl, ?_, ?_, (below_tr (Joins.below_alloc2 w _ _) hb).trans ((Joins.below_alloc1 w1 _).mono (by have := hb.size; simp at this; omega))⟩
    · rw [HB.out]; exact lit_strs rfl rfl rfl (all2 (sz_ok _ (by omega)) (sz_ok [41] (by simp))) (by simp; unfold maxLen; omega)
    · rw [HB.out]; exact lit_own rfl (by have := hb.size; simp at this; omega) rfl rfl (by simp; unfold maxLen; omega)
  · -- kind 6
    have HB := Lib.hid (show strs (NT x) = [⟨#[40]⟩, ⟨#[32]⟩, ⟨#[41]⟩] from by unfold NT nodeT; rw [if_neg (by omega), if_neg (by omega), if_neg (by omega), if_neg (by omega), if_neg (by omega), if_pos hk]; rfl)
    rw [hk]
    clear hn hE hM
    go_enter Tryz.func31, Tryz.ntmps31
    go_wp2
    go_ret
    refine ⟨_, rfl, ?_, ?_, Joins.below_alloc2 w _ _⟩
    · rw [HB.out]; exact lit_strs (by simp) rfl rfl (all3 (sz_ok [40] (by simp)) (sz_ok [32] (by simp)) (sz_ok [41] (by simp))) (by simp; unfold maxLen; omega)
    · rw [HB.out]; exact lit_own (by simp) (by simp) rfl rfl (by simp; unfold maxLen; omega)
  · -- kind 7
    have h12 := hnm (by omega)
    have hnd : x.s.data.toList.length ≤ 12 := h12
    have HB := Lib.hid (show strs (NT x) = [⟨(cat [⟨#[40, 108, 101, 116, 32]⟩, x.s, ⟨#[32, 61, 32]⟩]).toArray⟩, ⟨#[32, 105, 110, 32]⟩, ⟨#[41]⟩] from by unfold NT nodeT; rw [if_neg (by omega), if_neg (by omega), if_neg (by omega), if_neg (by omega), if_neg (by omega), if_neg (by omega), if_pos hk, pr_toList]; simp [strs, cat])
    have hcl : (cat [⟨#[40, 108, 101, 116, 32]⟩, x.s, ⟨#[32, 61, 32]⟩]).length ≤ 100 := by simp [cat]; omega
    have HJ := Lib.hid fun (W : World) (n : Nat) (hn : n = W.heap.size) => joined n 0 3 [⟨#[40, 108, 101, 116, 32]⟩, x.s, ⟨#[32, 61, 32]⟩] (W.alloc (.cells #[.string ⟨#[40, 108, 101, 116, 32]⟩, .string x.s, .string ⟨#[32, 61, 32]⟩] 9)) (strs_at _ _ _ _ _ hn rfl) (by simp [hn]) (by simp) (by simp) (by omega)
    rw [hk]
    clear hn hE hM
    generalize cat [⟨#[40, 108, 101, 116, 32]⟩, x.s, ⟨#[32, 61, 32]⟩] = t at *
    go_enter Tryz.func31, Tryz.ntmps31
    go_wp2_with (go_at_call 27; go_loud (refine (HJ.out _ _ (by simp)).mono ?_); rintro e w1 ⟨rfl, hb⟩)
    go_ret
    refine ⟨_, rfl, ?_, ?_, (below_tr (Joins.below_alloc2 w _ _) hb).trans ((Joins.below_alloc1 w1 _).mono (by have := hb.size; simp at this; omega))⟩
    · rw [HB.out]; exact lit_strs rfl rfl rfl (all3 (sz_ok _ (by omega)) (sz_ok [32, 105, 110, 32] (by simp)) (sz_ok [41] (by simp))) (by simp; unfold maxLen; omega)
    · rw [HB.out]; exact lit_own rfl (by have := hb.size; simp at this; omega) rfl rfl (by simp; unfold maxLen; omega)
  · -- kind 8
    have h12 := hnm (by omega)
    have hnd : x.s.data.toList.length ≤ 12 := h12
    have HB := Lib.hid (show strs (NT x) = [⟨(cat [⟨#[40, 108, 101, 116, 32, 114, 101, 99, 32]⟩, x.s, ⟨#[32]⟩]).toArray⟩, ⟨#[32, 105, 110, 32]⟩, ⟨#[41]⟩] from by unfold NT nodeT; rw [if_neg (by omega), if_neg (by omega), if_neg (by omega), if_neg (by omega), if_neg (by omega), if_neg (by omega), if_neg (by omega), if_pos hk, pr_toList]; simp [strs, cat])
    have hcl : (cat [⟨#[40, 108, 101, 116, 32, 114, 101, 99, 32]⟩, x.s, ⟨#[32]⟩]).length ≤ 100 := by simp [cat]; omega
    have HJ := Lib.hid fun (W : World) (n : Nat) (hn : n = W.heap.size) => joined n 0 3 [⟨#[40, 108, 101, 116, 32, 114, 101, 99, 32]⟩, x.s, ⟨#[32]⟩] (W.alloc (.cells #[.string ⟨#[40, 108, 101, 116, 32, 114, 101, 99, 32]⟩, .string x.s, .string ⟨#[32]⟩] 9)) (strs_at _ _ _ _ _ hn rfl) (by simp [hn]) (by simp) (by simp) (by omega)
    rw [hk]
    clear hn hE hM
    generalize cat [⟨#[40, 108, 101, 116, 32, 114, 101, 99, 32]⟩, x.s, ⟨#[32]⟩] = t at *
    go_enter Tryz.func31, Tryz.ntmps31
    go_wp2_with (go_at_call 27; go_loud (refine (HJ.out _ _ (by simp)).mono ?_); rintro e w1 ⟨rfl, hb⟩)
    go_ret
    refine ⟨_, rfl, ?_, ?_, (below_tr (Joins.below_alloc2 w _ _) hb).trans ((Joins.below_alloc1 w1 _).mono (by have := hb.size; simp at this; omega))⟩
    · rw [HB.out]; exact lit_strs rfl rfl rfl (all3 (sz_ok _ (by omega)) (sz_ok [32, 105, 110, 32] (by simp)) (sz_ok [41] (by simp))) (by simp; unfold maxLen; omega)
    · rw [HB.out]; exact lit_own rfl (by have := hb.size; simp at this; omega) rfl rfl (by simp; unfold maxLen; omega)
  · -- kind 9
    have HB := Lib.hid (show strs (NT x) = [⟨#[40, 105, 102, 32]⟩, ⟨#[32, 116, 104, 101, 110, 32]⟩, ⟨#[32, 101, 108, 115, 101, 32]⟩, ⟨#[41]⟩] from by unfold NT nodeT; rw [if_neg (by omega), if_neg (by omega), if_neg (by omega), if_neg (by omega), if_neg (by omega), if_neg (by omega), if_neg (by omega), if_neg (by omega), if_pos hk]; rfl)
    rw [hk]
    clear hn hE hM
    go_enter Tryz.func31, Tryz.ntmps31
    go_wp2
    go_ret
    refine ⟨_, rfl, ?_, ?_, Joins.below_alloc2 w _ _⟩
    · rw [HB.out]; exact lit_strs (by simp) rfl rfl ((by intro y hy; simp only [List.mem_cons, List.not_mem_nil, or_false] at hy; rcases hy with rfl | rfl | rfl | rfl <;> exact sz_ok _ (by simp))) (by simp; unfold maxLen; omega)
    · rw [HB.out]; exact lit_own (by simp) (by simp) rfl rfl (by simp; unfold maxLen; omega)
  · -- kind 10
    have h12 := hnm (by omega)
    have hnd : x.s.data.toList.length ≤ 12 := h12
    have HB := Lib.hid (show strs (NT x) = [⟨#[40]⟩, ⟨(cat [⟨#[32]⟩, x.s, ⟨#[32]⟩]).toArray⟩, ⟨#[41]⟩] from by unfold NT nodeT; rw [if_neg (by omega), if_neg (by omega), if_neg (by omega), if_neg (by omega), if_neg (by omega), if_neg (by omega), if_neg (by omega), if_neg (by omega), if_neg (by omega), if_pos hk, pr_toList]; simp [strs, cat])
    have hcl : (cat [⟨#[32]⟩, x.s, ⟨#[32]⟩]).length ≤ 100 := by simp [cat]; omega
    have HJ := Lib.hid fun (W : World) (n : Nat) (hn : n = W.heap.size) => joined n 0 3 [⟨#[32]⟩, x.s, ⟨#[32]⟩] (W.alloc (.cells #[.string ⟨#[32]⟩, .string x.s, .string ⟨#[32]⟩] 9)) (strs_at _ _ _ _ _ hn rfl) (by simp [hn]) (by simp) (by simp) (by omega)
    rw [hk]
    clear hn hE hM
    generalize cat [⟨#[32]⟩, x.s, ⟨#[32]⟩] = t at *
    go_enter Tryz.func31, Tryz.ntmps31
    go_wp2_with (go_at_call 27; go_loud (refine (HJ.out _ _ (by simp)).mono ?_); rintro e w1 ⟨rfl, hb⟩)
    go_ret
    refine ⟨_, rfl, ?_, ?_, (below_tr (Joins.below_alloc2 w _ _) hb).trans ((Joins.below_alloc1 w1 _).mono (by have := hb.size; simp at this; omega))⟩
    · rw [HB.out]; exact lit_strs rfl rfl rfl (all3 (sz_ok [40] (by simp)) (sz_ok _ (by omega)) (sz_ok [41] (by simp))) (by simp; unfold maxLen; omega)
    · rw [HB.out]; exact lit_own rfl (by have := hb.size; simp at this; omega) rfl rfl (by simp; unfold maxLen; omega)
  · -- kind 11
    have HB := Lib.hid (show strs (NT x) = [⟨#[40]⟩, ⟨#[44, 32]⟩, ⟨#[41]⟩] from by unfold NT nodeT; rw [if_neg (by omega), if_neg (by omega), if_neg (by omega), if_neg (by omega), if_neg (by omega), if_neg (by omega), if_neg (by omega), if_neg (by omega), if_neg (by omega), if_neg (by omega), if_pos hk]; rfl)
    rw [hk]
    clear hn hE hM
    go_enter Tryz.func31, Tryz.ntmps31
    go_wp2
    go_ret
    refine ⟨_, rfl, ?_, ?_, Joins.below_alloc2 w _ _⟩
    · rw [HB.out]; exact lit_strs (by simp) rfl rfl (all3 (sz_ok [40] (by simp)) (sz_ok [44, 32] (by simp)) (sz_ok [41] (by simp))) (by simp; unfold maxLen; omega)
    · rw [HB.out]; exact lit_own (by simp) (by simp) rfl rfl (by simp; unfold maxLen; omega)
  · -- kind 12
    have HB := Lib.hid (show strs (NT x) = [⟨#[40, 41]⟩] from by unfold NT nodeT; rw [if_neg (by omega), if_neg (by omega), if_neg (by omega), if_neg (by omega), if_neg (by omega), if_neg (by omega), if_neg (by omega), if_neg (by omega), if_neg (by omega), if_neg (by omega), if_neg (by omega), if_neg (by omega), if_neg (by omega), if_neg (by omega), if_neg (by omega), if_neg (by omega), if_neg (by omega), if_neg (by omega)]; rfl)
    rw [hk]
    clear hn hE hM
    go_enter Tryz.func31, Tryz.ntmps31
    go_wp2
    go_ret
    refine ⟨_, rfl, ?_, ?_, Joins.below_alloc2 w _ _⟩
    · rw [HB.out]; exact lit_strs (by simp) rfl rfl (all1 (sz_ok [40, 41] (by simp))) (by simp; unfold maxLen; omega)
    · rw [HB.out]; exact lit_own (by simp) (by simp) rfl rfl (by simp; unfold maxLen; omega)
  · -- kind 13
    have HB := Lib.hid (show NT x = matchT x.pats from by rw [nt13 hk]; rfl)
    have HC := hM hk
    rw [hk]
    clear hn hE hM hnm
    go_enter Tryz.func31, Tryz.ntmps31
    go_wp2_with (go_at_call 75; go_loud (refine (HC _ (Kept.alloc _ _) (Joins.below_alloc1 w _)).out.mono ?_); rintro e w1 ⟨v1, rfl, r1, o1, hb⟩)
    go_ret
    rw [HB.out]
    exact ⟨_, rfl, r1, own_down o1 (by simp), below_tr (Joins.below_alloc1 w _) hb⟩
  · -- kind 14
    have HB := Lib.hid (show strs (NT x) = [⟨#[40, 114, 97, 105, 115, 101, 32]⟩, ⟨#[41]⟩] from by unfold NT nodeT; rw [if_neg (by omega), if_neg (by omega), if_neg (by omega), if_neg (by omega), if_neg (by omega), if_neg (by omega), if_neg (by omega), if_neg (by omega), if_neg (by omega), if_neg (by omega), if_neg (by omega), if_neg (by omega), if_pos hk]; rfl)
    rw [hk]
    clear hn hE hM
    go_enter Tryz.func31, Tryz.ntmps31
    go_wp2
    go_ret
    refine ⟨_, rfl, ?_, ?_, Joins.below_alloc2 w _ _⟩
    · rw [HB.out]; exact lit_strs (by simp) rfl rfl (all2 (sz_ok [40, 114, 97, 105, 115, 101, 32] (by simp)) (sz_ok [41] (by simp))) (by simp; unfold maxLen; omega)
    · rw [HB.out]; exact lit_own (by simp) (by simp) rfl rfl (by simp; unfold maxLen; omega)
  · -- kind 15
    have h12 := hnm (by omega)
    have hnd : x.s.data.toList.length ≤ 12 := h12
    have HB := Lib.hid (show strs (NT x) = [⟨#[40, 116, 114, 121, 32]⟩, ⟨(cat [⟨#[32, 119, 105, 116, 104, 32]⟩, x.s, ⟨#[32, 45, 62, 32]⟩]).toArray⟩, ⟨#[32, 101, 110, 100, 41]⟩] from by unfold NT nodeT; rw [if_neg (by omega), if_neg (by omega), if_neg (by omega), if_neg (by omega), if_neg (by omega), if_neg (by omega), if_neg (by omega), if_neg (by omega), if_neg (by omega), if_neg (by omega), if_neg (by omega), if_neg (by omega), if_neg (by omega), if_pos hk, pr_toList]; simp [strs, cat])
    have hcl : (cat [⟨#[32, 119, 105, 116, 104, 32]⟩, x.s, ⟨#[32, 45, 62, 32]⟩]).length ≤ 100 := by simp [cat]; omega
    have HJ := Lib.hid fun (W : World) (n : Nat) (hn : n = W.heap.size) => joined n 0 3 [⟨#[32, 119, 105, 116, 104, 32]⟩, x.s, ⟨#[32, 45, 62, 32]⟩] (W.alloc (.cells #[.string ⟨#[32, 119, 105, 116, 104, 32]⟩, .string x.s, .string ⟨#[32, 45, 62, 32]⟩] 9)) (strs_at _ _ _ _ _ hn rfl) (by simp [hn]) (by simp) (by simp) (by omega)
    rw [hk]
    clear hn hE hM
    generalize cat [⟨#[32, 119, 105, 116, 104, 32]⟩, x.s, ⟨#[32, 45, 62, 32]⟩] = t at *
    go_enter Tryz.func31, Tryz.ntmps31
    go_wp2_with (go_at_call 27; go_loud (refine (HJ.out _ _ (by simp)).mono ?_); rintro e w1 ⟨rfl, hb⟩)
    go_ret
    refine ⟨_, rfl, ?_, ?_, (below_tr (Joins.below_alloc2 w _ _) hb).trans ((Joins.below_alloc1 w1 _).mono (by have := hb.size; simp at this; omega))⟩
    · rw [HB.out]; exact lit_strs rfl rfl rfl (all3 (sz_ok [40, 116, 114, 121, 32] (by simp)) (sz_ok _ (by omega)) (sz_ok [32, 101, 110, 100, 41] (by simp))) (by simp; unfold maxLen; omega)
    · rw [HB.out]; exact lit_own rfl (by have := hb.size; simp at this; omega) rfl rfl (by simp; unfold maxLen; omega)
  · -- kind 16
    have HB := Lib.hid (show strs (NT x) = [⟨#[40, 114, 101, 102, 32]⟩, ⟨#[41]⟩] from by unfold NT nodeT; rw [if_neg (by omega), if_neg (by omega), if_neg (by omega), if_neg (by omega), if_neg (by omega), if_neg (by omega), if_neg (by omega), if_neg (by omega), if_neg (by omega), if_neg (by omega), if_neg (by omega), if_neg (by omega), if_neg (by omega), if_neg (by omega), if_pos hk]; rfl)
    rw [hk]
    clear hn hE hM
    go_enter Tryz.func31, Tryz.ntmps31
    go_wp2
    go_ret
    refine ⟨_, rfl, ?_, ?_, Joins.below_alloc2 w _ _⟩
    · rw [HB.out]; exact lit_strs (by simp) rfl rfl (all2 (sz_ok [40, 114, 101, 102, 32] (by simp)) (sz_ok [41] (by simp))) (by simp; unfold maxLen; omega)
    · rw [HB.out]; exact lit_own (by simp) (by simp) rfl rfl (by simp; unfold maxLen; omega)
  · -- kind 17
    have HB := Lib.hid (show strs (NT x) = [⟨#[40, 33, 32]⟩, ⟨#[41]⟩] from by unfold NT nodeT; rw [if_neg (by omega), if_neg (by omega), if_neg (by omega), if_neg (by omega), if_neg (by omega), if_neg (by omega), if_neg (by omega), if_neg (by omega), if_neg (by omega), if_neg (by omega), if_neg (by omega), if_neg (by omega), if_neg (by omega), if_neg (by omega), if_neg (by omega), if_pos hk]; rfl)
    rw [hk]
    clear hn hE hM
    go_enter Tryz.func31, Tryz.ntmps31
    go_wp2
    go_ret
    refine ⟨_, rfl, ?_, ?_, Joins.below_alloc2 w _ _⟩
    · rw [HB.out]; exact lit_strs (by simp) rfl rfl (all2 (sz_ok [40, 33, 32] (by simp)) (sz_ok [41] (by simp))) (by simp; unfold maxLen; omega)
    · rw [HB.out]; exact lit_own (by simp) (by simp) rfl rfl (by simp; unfold maxLen; omega)
  · -- kind 18
    have HB := Lib.hid (show strs (NT x) = [⟨#[40]⟩, ⟨#[32, 58, 61, 32]⟩, ⟨#[41]⟩] from by unfold NT nodeT; rw [if_neg (by omega), if_neg (by omega), if_neg (by omega), if_neg (by omega), if_neg (by omega), if_neg (by omega), if_neg (by omega), if_neg (by omega), if_neg (by omega), if_neg (by omega), if_neg (by omega), if_neg (by omega), if_neg (by omega), if_neg (by omega), if_neg (by omega), if_neg (by omega), if_pos hk]; rfl)
    rw [hk]
    clear hn hE hM
    go_enter Tryz.func31, Tryz.ntmps31
    go_wp2
    go_ret
    refine ⟨_, rfl, ?_, ?_, Joins.below_alloc2 w _ _⟩
    · rw [HB.out]; exact lit_strs (by simp) rfl rfl (all3 (sz_ok [40] (by simp)) (sz_ok [32, 58, 61, 32] (by simp)) (sz_ok [41] (by simp))) (by simp; unfold maxLen; omega)
    · rw [HB.out]; exact lit_own (by simp) (by simp) rfl rfl (by simp; unfold maxLen; omega)
  · -- kind 19
    have HB := Lib.hid (show strs (NT x) = [⟨#[40]⟩, ⟨#[59, 32]⟩, ⟨#[41]⟩] from by unfold NT nodeT; rw [if_neg (by omega), if_neg (by omega), if_neg (by omega), if_neg (by omega), if_neg (by omega), if_neg (by omega), if_neg (by omega), if_neg (by omega), if_neg (by omega), if_neg (by omega), if_neg (by omega), if_neg (by omega), if_neg (by omega), if_neg (by omega), if_neg (by omega), if_neg (by omega), if_neg (by omega), if_pos hk]; rfl)
    rw [hk]
    clear hn hE hM
    go_enter Tryz.func31, Tryz.ntmps31
    go_wp2
    go_ret
    refine ⟨_, rfl, ?_, ?_, Joins.below_alloc2 w _ _⟩
    · rw [HB.out]; exact lit_strs (by simp) rfl rfl (all3 (sz_ok [40] (by simp)) (sz_ok [59, 32] (by simp)) (sz_ok [41] (by simp))) (by simp; unfold maxLen; omega)
    · rw [HB.out]; exact lit_own (by simp) (by simp) rfl rfl (by simp; unfold maxLen; omega)
end Go.Proofs.YtbehcmogndpkhaaGreatDoor
namespace Go.Proofs.YtbehcmogndpkhaaGreatDoor
set_option linter.unusedVariables false
set_option maxRecDepth 100000
open Go.ChangeShapes Go.WideShapes Go.ChangeAt Go.RowKit

theorem prTyRes_ok {l : List TyI} (h : tyOkB l = true) : prTyRes l = ⟨(prTy varL (l.length + 1) l 0).toArray⟩ := by rw [prTyRes, if_pos h]
set_option maxHeartbeats 8000000 in
theorem iConDecl (c : Cn) (va : Value) (w : World) (hn : c.name.size ≤ 12) (hty : c.has = true → tyOkB c.arg = true) (hr : RowRd 3 TyIEl w va c.arg) (hz : bTy c.arg ≤ 1048576) (hE : TabE w) :
    Calls Tryz.prog 70 #[.agg #[.string c.name, .bool c.has, va]] w fun e w' => e = .returned (.string ⟨(conD c).toArray⟩) ∧ Below w.heap.size w w' := by
  have hr0 := hr
  have HS := Lib.hid (show (⟨c.name.toList.toArray⟩ : ByteArray) = c.name from by rw [pr_toList])
  have hnd : c.name.data.toList.length ≤ 12 := hn
  obtain ⟨pa, ca, rfl, -, -⟩ := hr.form
  cases hh : c.has
  · have HB := Lib.hid (show conD c = c.name.toList from by unfold conD; rw [if_neg (by simp [hh])])
    clear hty hr hr0 hE hh
    go_enter Tryz.func70, Tryz.ntmps70
    go_wp2
    go_ret
    exact ⟨by rw [HB.out, HS.out]; rfl, Joins.below_alloc1 w _⟩
  · have ht := hty hh
    have hTl := prTy_top ht
    have HB0 := (show conD c = c.name.toList ++ [32, 111, 102, 32] ++ prTy varL (c.arg.length + 1) c.arg 0 from by unfold conD; rw [if_pos hh])
    have HP := fun W (hK : Kept w W) (hT : TabE W) => Lib.hid (iPrintTyC c.arg _ W (hr0.kept TyIEl.st hK) hz hT)
    rw [prTyRes_ok ht] at HP
    generalize prTy varL (c.arg.length + 1) c.arg 0 = T at *
    generalize c.arg.length = la at *
    have HB := Lib.hid HB0
    have hcl : (cat [c.name, ⟨#[32, 111, 102, 32]⟩, ⟨T.toArray⟩]).length ≤ 20000 := by simp [cat]; omega
    have HC := Lib.hid (show cat [c.name, ⟨#[32, 111, 102, 32]⟩, ⟨T.toArray⟩] = c.name.toList ++ [32, 111, 102, 32] ++ T from by rw [pr_toList]; simp [cat])
    have HJ := Lib.hid fun (W : World) (n : Nat) (hn : n = W.heap.size) => joined n 0 3 [c.name, ⟨#[32, 111, 102, 32]⟩, ⟨T.toArray⟩] (W.alloc (.cells #[.string c.name, .string ⟨#[32, 111, 102, 32]⟩, .string ⟨T.toArray⟩] 9)) (strs_at _ _ _ _ _ hn rfl) (by simp [hn]) (by simp) (by simp) (by omega)
    generalize cat [c.name, ⟨#[32, 111, 102, 32]⟩, ⟨T.toArray⟩] = C at *
    have HE := Lib.hid hE
    clear hr hr0 hE hty ht hh HB0
    go_enter Tryz.func70, Tryz.ntmps70
    go_wp2_with fail
    refine gen_world (P := fun W => Code.wp _ _ _ _ W) _ ?_
    intro W1 hW1
    have B1 : Below w.heap.size w W1 := by rw [hW1]; exact Joins.below_alloc1 w _
    have z1 : W1.heap.size = w.heap.size + 1 := by rw [hW1]; simp
    have hb9 : W1.heap[w.heap.size]? = some (.cells #[.string c.name, .bool true, .slice pa la ca] 57 (0, 0)) := by rw [hW1]; exact pp_alloc_at w _ rfl
    have c0 : W1.cell? ⟨w.heap.size, 0, none⟩ = some (.string c.name) := (pp_blk_cell hb9 0).1
    have c2 : W1.cell? ⟨w.heap.size, 2, none⟩ = some (.slice pa la ca) := (pp_blk_cell hb9 2).1
    have K1 := Kept.of_below B1
    have E1 := HE.out.below B1
    clear hW1 hb9
    have KS : ∀ W, Below W1.heap.size W1 W → W.cell? ⟨w.heap.size, 0, none⟩ = some (.string c.name) ∧ W.cell? ⟨w.heap.size, 2, none⟩ = some (.slice pa la ca) ∧ Kept w W ∧ TabE W ∧ Below W1.heap.size W1 W := fun W h =>
      ⟨(h.cell (p := ⟨w.heap.size, 0, none⟩) (by show w.heap.size < _; omega)).trans c0, (h.cell (p := ⟨w.heap.size, 2, none⟩) (by show w.heap.size < _; omega)).trans c2, K1.trans (Kept.of_below h), E1.below h, h⟩
    go_region_held3 (fun W => W.cell? ⟨w.heap.size, 0, none⟩ = some (.string c.name) ∧ W.cell? ⟨w.heap.size, 2, none⟩ = some (.slice pa la ca) ∧ Kept w W ∧ TabE W ∧ Below W1.heap.size W1 W)
      (first | exact KS _ (Below.refl _ _) | exact KS _ (Below.refl _ _).drew | exact KS _ ((Below.refl _ _).drew.trans hbA) | exact KS _ (((Below.refl _ _).drew.trans hbA).alloc (Nat.le_refl _) _) | exact KS _ (((Below.refl _ _).drew.trans hbA).alloc (by have := hbA.size; exact this) _) | exact KS _ (below_tr (((Below.refl _ _).drew.trans hbA).alloc (by have := hbA.size; exact this) _) hbB))
      (first | (go_at_call 145; refine (HP _ (KS _ (Below.refl _ _).drew).2.2.1 (KS _ (Below.refl _ _).drew).2.2.2.1).out.mono ?_; rintro e wA ⟨rfl, hbA⟩) | (go_at_call 27; go_loud (refine (HJ.out _ _ rfl).mono ?_); rintro e wB ⟨rfl, hbB⟩))
    go_wp2
    go_ret
    exact ⟨by rw [HB.out, ← HC.out]; rfl, below_tr B1 (below_tr (((Below.refl _ _).drew.trans hbA).alloc (by have := hbA.size; exact this) _) hbB)⟩
/-- A constructor that the program writes. -/
def c_ok (c : Cn) : Prop := c.name.size ≤ 12 ∧ (c.has = true → tyOkB c.arg = true) ∧ bTy c.arg ≤ 1048576
theorem e_conDeclText : ∀ args w, (callFunc 70 args).run Tryz.prog w = .ok (.enter 70 args) w := enters_of Tryz.func70 (by kernel_rfl) rfl
set_option maxHeartbeats 4000000 in
theorem iTxCn (l : List Cn) (v : Value) (w : World) (hR : RowRd 3 CnEl w v l) (hl : l.length ≤ 1048576) (hall : ∀ x ∈ l, c_ok x) (hE : TabE w) :
    Calls Tryz.prog 69 #[v, .func (.func 70) #[] #[]] w fun e w' => ∃ v', e = .returned v' ∧ w'.ownsRow w.heap.size 9 1 v' (strs (l.map conD)).length (sc (strs (l.map conD))) ∧ Below w.heap.size w w' := by
  obtain ⟨p, cap, rfl, hm, hR⟩ := hR.form
  unfold maxLen at hm
  obtain ⟨ii, hi, hz0, hz1, hz2⟩ := info_parts info_str'
  obtain ⟨w0, hmk, hown0, hgr0⟩ := run_make_own (P := Tryz.prog) w w.heap.size 36 9 ii (.string ⟨#[]⟩) 1 Tryz.underlying36 hi hz0 hz1 .i64 .i64 l.length (by rw [hz2]; omega) (by unfold maxLen; omega) (Nat.le_refl _)
  have hb0 : Below w.heap.size w w0 := (Below.refl _ _).grown hgr0 (Nat.le_refl _) (fun k hk => by simp at hk)
  have HA := Lib.hid hall
  have HT := Lib.hid hE
  clear hall hE
  have e_item := e_conDeclText
  go_enter Tryz.func69, Tryz.ntmps69
  go_wp2
  go_loopw [5, 13] (fun nx i wr => ∃ k : Nat, i = .int .i64 k ∧ k ≤ l.length ∧ wr.ownsRow w.heap.size 9 1 nx (strs ((l.take k).map conD)).length (sc (strs ((l.take k).map conD))) ∧ Below w.heap.size w wr ∧ w.heap.size ≤ wr.heap.size) (fun _ i _ => l.length - (intOf i).toNat)
  case atStart => exact ⟨0, rfl, Nat.zero_le _, hown0, hb0, hb0.size⟩
  case round =>
    obtain ⟨k, rfl, hk, hown, hbel, hsz⟩ := hrel
    have hql : (strs ((l.take k).map conD)).length ≤ 1048576 := by rw [strs_length, List.length_map, List.length_take]; omega
    by_cases hlt : k < l.length
    · obtain ⟨b, o, rfl, hbw, hc⟩ := hR (by omega)
      have ex := CnEl.st w wr b _ _ (Kept.of_below hbel) hbw (hc k hlt)
      have hxk := HA.out l[k] (List.getElem_mem hlt)
      have hstep := (show strs ((l.take (k + 1)).map conD) = strs ((l.take k).map conD) ++ [⟨(conD l[k]).toArray⟩] from by rw [List.take_succ_eq_append_getElem hlt, List.map_append, strs_app]; rfl)
      obtain ⟨x, hxe⟩ : ∃ x, l[k] = x := ⟨_, rfl⟩
      rw [hxe] at ex hxk hstep
      have HS := Lib.hid hstep
      obtain ⟨⟨e0, i0⟩, e1, ⟨u2, e2, r2⟩⟩ := ex
      unfold BoolEl at e1
      have r20 := r2
      obtain ⟨pa, ca, rfl, -, -⟩ := r2.form
      clear r2
      have hag := Lib.hid (iConDecl x _ (wr.alloc (.cells #[.string x.name, .bool x.has, .slice pa x.arg.length ca] 57)) hxk.1 hxk.2.1 (r20.kept TyIEl.st (Kept.alloc _ _)) hxk.2.2 ((HT.out.below hbel).below (Joins.below_alloc1 wr _)))
      clear hc hR hmk hown0 hgr0 hb0 hxe hxk hstep
      generalize conD x = T at *
      go_wp2_with (first
        | (go_at_call 70; go_loud (refine hag.out.mono ?_); rintro e w1 ⟨rfl, hb⟩; have hb1 := below_tr (Joins.below_alloc1 wr _) hb; have hown1 := own_below hown hb1; have hbel1 := below_tr hbel hb1; have hsz1 := Nat.le_trans hsz hb1.size)
        | (at_builtin; go_loud (refine wpList_append_own _ rfl (.tmp 17) (.tmp 21) 36 rfl w.heap.size 9 ii (.string ⟨#[]⟩) 1 16 Tryz.underlying36 hi hz0 hz1 hz2 rfl (by decide) _ (strs ((l.take k).map conD)).length (sc (strs ((l.take k).map conD))) rfl (hown1.alloc _) ⟨w1.heap.size, 0, none⟩ 1 1 [.string ⟨T.toArray⟩] rfl rfl (new_cells _ _ _ _ rfl) (sc_one [⟨T.toArray⟩]) (by unfold maxLen; omega) (by omega) (by simp; omega) ?_); intro v' w2 hown' hgrow _))
      have R := own_app hown1 hbel1 (Nat.le_refl _) hsz1 hgrow
      have O := own_strs rfl rfl (l' := [⟨T.toArray⟩]) rfl rfl hown'
      clear hown hown1 hown' hgrow hbel hbel1 hag
      go_roundw
      case rel => exact ⟨k + 1, by go_num, by omega, by rw [HS.out]; exact O, R.1, R.2⟩
      case measure => simp [intOf]; omega
    · obtain rfl : k = l.length := by omega
      rw [List.take_length] at hown
      clear hR hmk hown0 hgr0 hb0
      go_wp2
      go_ret
      exact ⟨_, rfl, hown, hbel⟩
end Go.Proofs.YtbehcmogndpkhaaGreatDoor
namespace Go.Proofs.YtbehcmogndpkhaaGreatDoor
set_option linter.unusedVariables false
set_option maxRecDepth 100000
open Go.ChangeShapes Go.WideShapes Go.ChangeAt Go.RowKit

theorem iHeadText (t : Tp) (vc : Value) (w : World) (hn : t.name.size ≤ 12) (hp : t.params = 0 ∨ t.params = 1 ∨ t.params = 2) :
    Calls Tryz.prog 71 #[.agg #[.string t.name, .int .i64 t.params, vc]] w fun e w' => e = .returned (.string ⟨(headP t ++ t.name.toList).toArray⟩) ∧ Below w.heap.size w w' := by
  have hnd : t.name.data.toList.length ≤ 12 := hn
  have HS := Lib.hid (show (⟨t.name.toList.toArray⟩ : ByteArray) = t.name from by rw [pr_toList])
  rcases hp with hk | hk | hk
  · have HB := Lib.hid (show headP t ++ t.name.toList = t.name.toList from by simp [headP, hk])
    rw [hk]
    go_enter Tryz.func71, Tryz.ntmps71
    go_wp2
    go_ret
    exact ⟨by rw [HB.out, HS.out]; rfl, Joins.below_alloc1 w _⟩
  · have HC := Lib.hid (show cat [⟨#[39, 97, 32]⟩, t.name] = headP t ++ t.name.toList from by simp [headP, hk, cat, pr_toList])
    have hcl : (cat [⟨#[39, 97, 32]⟩, t.name]).length ≤ 100 := by simp [cat]; omega
    have HJ := Lib.hid fun (W : World) (n : Nat) (hn : n = W.heap.size) => joined n 0 2 [⟨#[39, 97, 32]⟩, t.name] (W.alloc (.cells #[.string ⟨#[39, 97, 32]⟩, .string t.name] 9)) (strs_at _ _ _ _ _ hn rfl) (by simp [hn]) (by simp) (by simp) (by omega)
    rw [hk]
    generalize cat [⟨#[39, 97, 32]⟩, t.name] = C at *
    go_enter Tryz.func71, Tryz.ntmps71
    go_wp2_with (go_at_call 27; go_loud (refine (HJ.out _ _ (by simp)).mono ?_); rintro e w1 ⟨rfl, hb⟩)
    go_ret
    exact ⟨by rw [← HC.out]; rfl, below_tr (Joins.below_alloc2 w _ _) hb⟩
  · have HC := Lib.hid (show cat [⟨#[40, 39, 97, 44, 32, 39, 98, 41, 32]⟩, t.name] = headP t ++ t.name.toList from by simp [headP, hk, cat, pr_toList])
    have hcl : (cat [⟨#[40, 39, 97, 44, 32, 39, 98, 41, 32]⟩, t.name]).length ≤ 100 := by simp [cat]; omega
    have HJ := Lib.hid fun (W : World) (n : Nat) (hn : n = W.heap.size) => joined n 0 2 [⟨#[40, 39, 97, 44, 32, 39, 98, 41, 32]⟩, t.name] (W.alloc (.cells #[.string ⟨#[40, 39, 97, 44, 32, 39, 98, 41, 32]⟩, .string t.name] 9)) (strs_at _ _ _ _ _ hn rfl) (by simp [hn]) (by simp) (by simp) (by omega)
    rw [hk]
    generalize cat [⟨#[40, 39, 97, 44, 32, 39, 98, 41, 32]⟩, t.name] = C at *
    go_enter Tryz.func71, Tryz.ntmps71
    go_wp2_with (go_at_call 27; go_loud (refine (HJ.out _ _ (by simp)).mono ?_); rintro e w1 ⟨rfl, hb⟩)
    go_ret
    exact ⟨by rw [← HC.out]; rfl, below_tr (Joins.below_alloc2 w _ _) hb⟩
/-- A type that the program writes. -/
structure t_ok (t : Tp) : Prop where
  nm : t.name.size ≤ 12
  pr : t.params = 0 ∨ t.params = 1 ∨ t.params = 2
  cl : 1 ≤ t.cons.length ∧ t.cons.length ≤ 8
  cs : ∀ c ∈ t.cons, c_ok c
  dl : ∀ c ∈ t.cons, (conD c).length ≤ 9000
set_option maxHeartbeats 1000000 in
theorem iTypeText (t : Tp) (vc : Value) (w : World) (ht : t_ok t) (hr : RowRd 3 CnEl w vc t.cons) (hE : TabE w) :
    Calls Tryz.prog 29 #[.agg #[.string t.name, .int .i64 t.params, vc]] w fun e w' => e = .returned (.string ⟨(typeT t).toArray⟩) ∧ Below w.heap.size w w' := by
  have hr0 := hr
  obtain ⟨pa, ca, rfl, -, -⟩ := hr.form
  obtain ⟨h1, h2, ⟨h3, h3'⟩, h4, h5⟩ := ht
  have hnd : t.name.data.toList.length ≤ 12 := h1
  have HM := fun W (hK : Kept w W) (hT : TabE W) => Lib.hid (iTxCn t.cons _ W (hr0.kept CnEl.st hK) (by omega) h4 hT)
  have HH := fun W => Lib.hid (iHeadText t (.slice pa t.cons.length ca) W h1 h2)
  have hjl := join_le (t.cons.map conD) [32, 124, 32] 9000 (by simp) (fun x hx => by
    obtain ⟨c, hc, rfl⟩ := List.mem_map.1 hx
    exact h5 c hc)
  rw [List.length_map] at hjl
  have hml : (strs (t.cons.map conD)).map (·.data.toList) = t.cons.map conD := by
    unfold strs
    rw [List.map_map]
    conv => rhs; rw [← List.map_id (t.cons.map conD)]
    exact List.map_congr_left fun x _ => rfl
  have hsl : (strs (t.cons.map conD)).length = t.cons.length := by rw [strs_length, List.length_map]
  have hhl : (headP t ++ t.name.toList).length ≤ 30 := by
    have : (headP t).length ≤ 9 := by unfold headP; split; · simp
                                      · split <;> simp
    rw [List.length_append, pr_toList]; omega
  have HB0 := (show typeT t = [116, 121, 112, 101, 32] ++ ((headP t ++ t.name.toList) ++ ([32, 61, 32] ++ (Lib.join (t.cons.map conD) [32, 124, 32] ++ [59, 32]))) from by unfold typeT typeH; simp)
  have hj8 : (Lib.join (t.cons.map conD) [32, 124, 32]).length ≤ 200000 := by
    have := Nat.mul_le_mul_left (2 * 9000) h3'
    omega
  have HSJ := Lib.hid fun (W : World) (g cap : Nat) (hown : ∀ (j : Nat) x, (strs (t.cons.map conD))[j]? = some x → W.cell? ⟨g, 0 + j, none⟩ = some (.string x)) (hg : g < W.heap.size) (hc : (strs (t.cons.map conD)).length ≤ cap) => Tryz.strings_Join g 0 cap (strs (t.cons.map conD)) ⟨#[32, 124, 32]⟩ W hown hg (by omega) hc (by rw [hml]; show (Lib.join (t.cons.map conD) [32, 124, 32]).length ≤ _; omega)
  rw [hml] at HSJ
  have HSJ2 := Lib.hid fun (W : World) (g cap : Nat) (hown : ∀ (j : Nat) x, (strs (t.cons.map conD))[j]? = some x → W.cell? ⟨g, 0 + j, none⟩ = some (.string x)) (hg : g < W.heap.size) (hc : (strs (t.cons.map conD)).length ≤ cap) => (show Calls Tryz.prog 68 #[.slice (some ⟨g, 0, none⟩) (strs (t.cons.map conD)).length cap, .string ⟨#[32, 124, 32]⟩] W fun e w' => e = .returned (.string ⟨(Lib.join (t.cons.map conD) [32, 124, 32]).toArray⟩) ∧ Below W.heap.size W w' from HSJ.out W g cap hown hg hc)
  clear HSJ
  generalize Lib.join (t.cons.map conD) [32, 124, 32] = J at *
  generalize hX : strs (t.cons.map conD) = X at *
  generalize headP t ++ t.name.toList = H at *
  have HB := Lib.hid HB0
  have hcl : (cat [⟨#[116, 121, 112, 101, 32]⟩, ⟨H.toArray⟩, ⟨#[32, 61, 32]⟩, ⟨J.toArray⟩, ⟨#[59, 32]⟩]).length ≤ 1000000 := by simp [cat]; omega
  have HC := Lib.hid (show cat [⟨#[116, 121, 112, 101, 32]⟩, ⟨H.toArray⟩, ⟨#[32, 61, 32]⟩, ⟨J.toArray⟩, ⟨#[59, 32]⟩] = [116, 121, 112, 101, 32] ++ (H ++ ([32, 61, 32] ++ (J ++ [59, 32]))) from by simp [cat])
  have HJ := Lib.hid fun (W : World) (n : Nat) (hn : n = W.heap.size) => joined n 0 5 [⟨#[116, 121, 112, 101, 32]⟩, ⟨H.toArray⟩, ⟨#[32, 61, 32]⟩, ⟨J.toArray⟩, ⟨#[59, 32]⟩] (W.alloc (.cells #[.string ⟨#[116, 121, 112, 101, 32]⟩, .string ⟨H.toArray⟩, .string ⟨#[32, 61, 32]⟩, .string ⟨J.toArray⟩, .string ⟨#[59, 32]⟩] 9)) (strs_at _ _ _ _ _ hn rfl) (by simp [hn]) (by simp) (by simp) (by omega)
  generalize cat [⟨#[116, 121, 112, 101, 32]⟩, ⟨H.toArray⟩, ⟨#[32, 61, 32]⟩, ⟨J.toArray⟩, ⟨#[59, 32]⟩] = C at *
  have HE := Lib.hid hE
  have HX := Lib.hid hX
  have HSL := Lib.hid hsl
  clear hsl
  clear hr hr0 hE h4 h5 hml HB0 hX hjl
  generalize t.cons.length = lc at *
  go_enter Tryz.func29, Tryz.ntmps29
  go_wp2_with (first
    | (go_at_call 69; go_loud (refine (HM _ (Kept.alloc _ _) (HE.out.below (Joins.below_alloc1 w _))).out.mono ?_); rintro e w1 ⟨v1, rfl, hown, hb1⟩; have B1 := below_tr (Joins.below_alloc1 w _) hb1; have e0 := (hb1.cell (p := ⟨w.heap.size, 0, none⟩) (by simp)).trans (pp_blk_cell (pp_alloc_at w _ rfl) 0).1; have e1 := (hb1.cell (p := ⟨w.heap.size, 1, none⟩) (by simp)).trans (pp_blk_cell (pp_alloc_at w _ rfl) 1).1; have e2 := (hb1.cell (p := ⟨w.heap.size, 2, none⟩) (by simp)).trans (pp_blk_cell (pp_alloc_at w _ rfl) 2).1; simp only [List.getElem?_toArray, List.getElem?_cons_zero, List.getElem?_cons_succ] at e0 e1 e2)
    | (go_at_call 71; go_loud (refine (HH _).out.mono ?_); rintro e w2 ⟨rfl, hb2⟩; have B2 := below_tr B1 hb2; have hown2 := own_below hown hb2; obtain ⟨g, cap, hvv, g1, g2, g3, g4, -⟩ := own_shape hown2 (by have := HSL.out; omega); subst hvv)
    | (go_at_call 68; go_loud (refine (HSJ2.out w2 g cap (fun j x hj => by rw [Nat.zero_add, g4 j (List.getElem?_eq_some_iff.1 hj).1, sc, List.getElem?_map, hj]; rfl) g2 g3).mono ?_); rintro e w3 ⟨rfl, hb3⟩; have B3 := below_tr B2 hb3)
    | (go_at_call 27; go_loud (refine (HJ.out _ _ (by simp)).mono ?_); rintro e w4 ⟨rfl, hb4⟩))
  go_ret
  exact ⟨by rw [HB.out, ← HC.out]; rfl, below_tr (below_tr B3 (Joins.below_alloc1 w3 _)) hb4⟩
end Go.Proofs.YtbehcmogndpkhaaGreatDoor
namespace Go.Proofs.YtbehcmogndpkhaaGreatDoor
set_option linter.unusedVariables false
set_option maxRecDepth 100000
open Go.ChangeShapes Go.WideShapes Go.ChangeAt Go.RowKit

/-- So many texts as children, and one more. -/
theorem NT_len {x : Nd} (h : isNodeB x = true) : (NT x).length = x.kids.length + 1 := by
  have hr := nk_range h
  simp only [isNodeB, Bool.and_eq_true] at h
  obtain ⟨_, _, _, h4, h5⟩ := h
  rcases hr with hk | hk | hk | hk | hk | hk | hk | hk | hk | hk | hk | hk | hk | hk | hk | hk | hk | hk | hk
  all_goals
    rw [hk] at h4
    simp [rkB] at h4
  all_goals first
    | (unfold rpB at h5
       rw [if_pos hk] at h5
       simp at h5
       rw [nt13 hk]
       simp [arms_len]
       omega)
    | (simp [NT, nodeT, hk, h4]; done)
    | (by_cases h0 : x.kids.length = 0
       · first | (exfalso; omega) | (simp [NT, nodeT, hk, h0]; done)
       · simp [NT, nodeT, hk, h0]; omega)
/-- A node that the program writes. -/
structure n_ok (x : Nd) : Prop where
  nd : isNodeB x = true
  s : x.s.size ≤ 1048576
  pz : ∀ q ∈ x.pats, bPat q ≤ 1048576
  pl : x.pats.length ≤ 1048576
  kl : x.kids.length ≤ 1048576
theorem e_nodeTexts : ∀ args w, (callFunc 31 args).run Tryz.prog w = .ok (.enter 31 args) w := enters_of Tryz.func31 (by kernel_rfl) rfl
theorem e_typeText : ∀ args w, (callFunc 29 args).run Tryz.prog w = .ok (.enter 29 args) w := enters_of Tryz.func29 (by kernel_rfl) rfl
set_option maxHeartbeats 4000000 in
theorem iTxTp (l : List Tp) (v : Value) (w : World) (hR : RowRd 3 TpEl w v l) (hl : l.length ≤ 1048576) (hall : ∀ x ∈ l, t_ok x) (hE : TabE w) :
    Calls Tryz.prog 28 #[v, .func (.func 29) #[] #[]] w fun e w' => ∃ g cap, e = .returned (.slice (some ⟨g, 0, none⟩) (strs (l.map typeT)).length cap) ∧ g < w'.heap.size ∧ (strs (l.map typeT)).length ≤ cap ∧ (∀ (j : Nat) x, (strs (l.map typeT))[j]? = some x → w'.cell? ⟨g, 0 + j, none⟩ = some (.string x)) ∧ Below w.heap.size w w' := by
  obtain ⟨p, cap, rfl, hm, hR⟩ := hR.form
  unfold maxLen at hm
  obtain ⟨ii, hi, hz0, hz1, hz2⟩ := info_parts info_str'
  obtain ⟨w0, hmk, hown0, hgr0⟩ := run_make_own (P := Tryz.prog) w w.heap.size 36 9 ii (.string ⟨#[]⟩) 1 Tryz.underlying36 hi hz0 hz1 .i64 .i64 l.length (by rw [hz2]; omega) (by unfold maxLen; omega) (Nat.le_refl _)
  have hb0 : Below w.heap.size w w0 := (Below.refl _ _).grown hgr0 (Nat.le_refl _) (fun k hk => by simp at hk)
  have HA := Lib.hid hall
  have HT := Lib.hid hE
  clear hall hE
  have e_item := e_typeText
  go_enter Tryz.func28, Tryz.ntmps28
  go_wp2
  go_loopw [5, 13] (fun nx i wr => ∃ k : Nat, i = .int .i64 k ∧ k ≤ l.length ∧ wr.ownsRow w.heap.size 9 1 nx (strs ((l.take k).map typeT)).length (sc (strs ((l.take k).map typeT))) ∧ Below w.heap.size w wr ∧ w.heap.size ≤ wr.heap.size ∧ Hid (nx.ownBlock ≠ none)) (fun _ i _ => l.length - (intOf i).toNat)
  case atStart => exact ⟨0, rfl, Nat.zero_le _, hown0, hb0, hb0.size, Lib.hid (by simp [Value.ownBlock])⟩
  case round =>
    obtain ⟨k, rfl, hk, hown, hbel, hsz, hnb⟩ := hrel
    have hql : (strs ((l.take k).map typeT)).length ≤ 1048576 := by rw [strs_length, List.length_map, List.length_take]; omega
    by_cases hlt : k < l.length
    · obtain ⟨b, o, rfl, hbw, hc⟩ := hR (by omega)
      have ex := TpEl.st w wr b _ _ (Kept.of_below hbel) hbw (hc k hlt)
      have hxk := HA.out l[k] (List.getElem_mem hlt)
      have hstep := (show strs ((l.take (k + 1)).map typeT) = strs ((l.take k).map typeT) ++ [⟨(typeT l[k]).toArray⟩] from by rw [List.take_succ_eq_append_getElem hlt, List.map_append, strs_app]; rfl)
      obtain ⟨x, hxe⟩ : ∃ x, l[k] = x := ⟨_, rfl⟩
      rw [hxe] at ex hxk hstep
      have HS := Lib.hid hstep
      obtain ⟨⟨e0, i0⟩, ⟨e1, i1⟩, ⟨u2, e2, r2⟩⟩ := ex
      have r20 := r2
      obtain ⟨pa, ca, rfl, -, -⟩ := r2.form
      clear r2
      have hag := Lib.hid (iTypeText x _ (wr.alloc (.cells #[.string x.name, .int .i64 x.params, .slice pa x.cons.length ca] 52)) hxk (r20.kept CnEl.st (Kept.alloc _ _)) ((HT.out.below hbel).below (Joins.below_alloc1 wr _)))
      clear hc hR hmk hown0 hgr0 hb0 hxe hxk hstep
      generalize typeT x = T at *
      go_wp2_with (first
        | (go_at_call 29; go_loud (refine hag.out.mono ?_); rintro e w1 ⟨rfl, hb⟩; have hb1 := below_tr (Joins.below_alloc1 wr _) hb; have hown1 := own_below hown hb1; have hbel1 := below_tr hbel hb1; have hsz1 := Nat.le_trans hsz hb1.size)
        | (at_builtin; go_loud (refine wpList_append_own _ rfl (.tmp 17) (.tmp 21) 36 rfl w.heap.size 9 ii (.string ⟨#[]⟩) 1 16 Tryz.underlying36 hi hz0 hz1 hz2 rfl (by decide) _ (strs ((l.take k).map typeT)).length (sc (strs ((l.take k).map typeT))) rfl (hown1.alloc _) ⟨w1.heap.size, 0, none⟩ 1 1 [.string ⟨T.toArray⟩] rfl rfl (new_cells _ _ _ _ rfl) (sc_one [⟨T.toArray⟩]) (by unfold maxLen; omega) (by omega) (by simp; omega) ?_); intro v' w2 hown' hgrow _))
      have R := own_app hown1 hbel1 (Nat.le_refl _) hsz1 hgrow
      have O := own_strs rfl rfl (l' := [⟨T.toArray⟩]) rfl rfl hown'
      have hnb2 : Hid (v'.ownBlock ≠ none) := Lib.hid (by
        obtain ⟨g9, c9, rfl, -, -, -, -, -⟩ := own_shape O (by simp)
        simp [Value.ownBlock])
      clear hown hown1 hown' hgrow hbel hbel1 hag
      go_roundw
      case rel => exact ⟨k + 1, by go_num, by omega, by rw [HS.out]; exact O, R.1, R.2, hnb2⟩
      case measure => simp [intOf]; omega
    · obtain rfl : k = l.length := by omega
      rw [List.take_length] at hown
      clear hR hmk hown0 hgr0 hb0
      have hown2 := hown
      obtain ⟨_, ⟨rfl, _⟩ | ⟨g, gcap, gcur, rfl, h1, h2, h3, h4, h5, h6⟩⟩ := hown
      · exact absurd rfl hnb.out
      go_wp2
      go_ret
      exact ⟨g, gcap, rfl, (hown2.lt g rfl).2, h3, fun j x hj => by
        have := hown2.cellAt j (by rw [Nat.mul_one]; exact (List.getElem?_eq_some_iff.1 hj).1)
        rw [Nat.zero_add, this, sc, List.getElem?_map, hj]; rfl, hbel⟩
set_option maxHeartbeats 4000000 in
theorem iTxNd (l : List Nd) (v : Value) (w : World) (hR : RowRd 6 NdEl w v l) (hl : l.length ≤ 1048576) (hall : ∀ x ∈ l, n_ok x) (htab : TabE w) :
    Calls Tryz.prog 30 #[v, .func (.func 31) #[] #[]] w fun e w' => ∃ v' us, e = .returned v' ∧ us.length = l.length ∧ w'.ownsRow w.heap.size 36 1 v' us.length us ∧ (∀ g, v'.ownBlock = some g → ∀ j (h : j < us.length) (h2 : j < l.length), TxAt g w' us[j] (NT l[j])) ∧ Below w.heap.size w w' := by
  obtain ⟨p, cap, rfl, hm, hR⟩ := hR.form
  unfold maxLen at hm
  obtain ⟨ii, hi, hz0, hz1, hz2⟩ := info_parts info_strs
  obtain ⟨w0, hmk, hown0, hgr0⟩ := run_make_own (P := Tryz.prog) w w.heap.size 65 36 ii (.slice none 0 0) 1 Tryz.underlying65 hi hz0 hz1 .i64 .i64 l.length (by rw [hz2]; omega) (by unfold maxLen; omega) (Nat.le_refl _)
  have hb0 : Below w.heap.size w w0 := (Below.refl _ _).grown hgr0 (Nat.le_refl _) (fun k hk => by simp at hk)
  have HA := Lib.hid hall
  have HT := Lib.hid htab
  clear hall htab
  have e_item := e_nodeTexts
  go_enter Tryz.func30, Tryz.ntmps30
  go_wp2
  go_loopw [5, 13] (fun nx i wr => ∃ (k : Nat) (us : List Value), i = .int .i64 k ∧ k ≤ l.length ∧ us.length = k ∧ wr.ownsRow w.heap.size 36 1 nx us.length us ∧ Hid (∀ u ∈ us, u.oneCell' = true) ∧ Hid (∀ j (h : j < us.length) (h2 : j < l.length), wr.ownsRow w.heap.size 9 1 us[j] (strs (NT l[j])).length (sc (strs (NT l[j])))) ∧ Below w.heap.size w wr ∧ w.heap.size ≤ wr.heap.size) (fun _ i _ => l.length - (intOf i).toNat)
  case atStart => exact ⟨0, [], rfl, Nat.zero_le _, rfl, hown0, Lib.hid (by simp), Lib.hid (by simp), hb0, hb0.size⟩
  case round =>
    obtain ⟨k, us, rfl, hk, hlen, hown, hone, hin, hbel, hsz⟩ := hrel
    by_cases hlt : k < l.length
    · obtain ⟨b, o, rfl, hbw, hc⟩ := hR (by omega)
      have ex := NdEl.st w wr b _ _ (Kept.of_below hbel) hbw (hc k hlt)
      have hxk := HA.out l[k] (List.getElem_mem hlt)
      obtain ⟨x, hxe⟩ : ∃ x, l[k] = x := ⟨_, rfl⟩
      rw [hxe] at ex hxk
      have HX := Lib.hid hxe
      obtain ⟨⟨e0, i0⟩, ⟨e1, i1⟩, ⟨e2, i2⟩, ⟨e3, i3⟩, ⟨u4, e4, r4⟩, ⟨u5, e5, r5⟩⟩ := ex
      have r50 := r5
      obtain ⟨pk, ck, rfl, -, -⟩ := r4.form
      obtain ⟨pq, cq, rfl, -, -⟩ := r5.form
      have hag := Lib.hid (iNodeTexts x pk pq ck cq (wr.alloc (.cells #[.int .i64 x.kind, .int .i64 x.at_, .int .i64 x.n, .string x.s, .slice pk x.kids.length ck, .slice pq x.pats.length cq] 69)) hxk.nd hxk.s (r50.kept PatEl.st (Kept.alloc _ _)) hxk.pz hxk.pl ((HT.out.below hbel).below (Joins.below_alloc1 wr _)))
      clear r50 r5 r4
      clear hc hR hmk hown0 hgr0 hb0 hxe hxk
      go_wp2_with (first
        | (go_at_call 31; refine hag.out.mono ?_; rintro e w1 ⟨u, rfl, ru, ou, hb⟩; have hb1 := below_tr (Joins.below_alloc1 wr _) hb; have hown1 := own_below hown hb1; have hbel1 := below_tr hbel hb1; have hsz1 := Nat.le_trans hsz hb1.size; obtain ⟨ua, uc, rfl, -, -⟩ := ru.form; have hu1 : Hid (∀ y ∈ [(.slice ua (strs (NT x)).length uc : Value)], y.oneCell' = true) := Lib.hid (by intro y hy; rw [List.mem_singleton.1 hy]; rfl))
        | (at_builtin; go_loud (refine wpList_append_own _ rfl (.tmp 17) (.tmp 21) 65 rfl w.heap.size 36 ii (.slice none 0 0) 1 24 Tryz.underlying65 hi hz0 hz1 hz2 rfl (by decide) _ us.length us rfl (hown1.alloc _) ⟨w1.heap.size, 0, none⟩ 1 1 [.slice ua (strs (NT x)).length uc] rfl rfl (new_cells _ _ _ _ rfl) hu1.out (by unfold maxLen; omega) (by omega) (by simp; omega) ?_); intro v' w2 hown' hgrow _))
      have R := own_app hown1 hbel1 (Nat.le_refl _) hsz1 hgrow
      have ou2 := ((own_down ou (B2 := w.heap.size) (by simp; omega)).alloc _).kept hgrow (own_two' (own_down ou (B2 := w.heap.size) (by simp; omega)) hown1 (by decide))
      have hin2 : Hid (∀ j (h : j < (us ++ [Value.slice ua (strs (NT x)).length uc]).length) (h2 : j < l.length), w2.ownsRow w.heap.size 9 1 (us ++ [Value.slice ua (strs (NT x)).length uc])[j] (strs (NT l[j])).length (sc (strs (NT l[j])))) := Lib.hid (by
        intro j h h2
        by_cases hj : j < us.length
        · have h3 := own_below (hin.out j hj h2) hb1
          rw [List.getElem_append_left hj]
          exact (h3.alloc _).kept hgrow (own_two' h3 hown1 (by decide))
        · have : j = k := by simp at h; omega
          subst this
          rw [List.getElem_append_right (by omega)]
          simp only [HX.out, hlen, Nat.sub_self, List.getElem_singleton]
          exact ou2)
      have hone2 : Hid (∀ y ∈ us ++ [Value.slice ua (strs (NT x)).length uc], y.oneCell' = true) := Lib.hid fun y hy => (List.mem_append.1 hy).elim (hone.out y) (hu1.out y)
      clear hown hown1 hgrow hbel hbel1 hin ou ou2 ru hone hu1 hag
      go_roundw
      case rel => exact ⟨k + 1, us ++ [Value.slice ua (strs (NT x)).length uc], by go_num, by omega, by simp; omega, by rw [List.length_append]; exact hown', hone2, hin2, R.1, R.2⟩
      case measure => simp [intOf]; omega
    · obtain rfl : k = l.length := by omega
      clear hR hmk hown0 hgr0 hb0
      go_wp2
      go_ret
      refine ⟨_, us, rfl, hlen, hown, fun g hg j h h2 => ?_, hbel⟩
      have hx := HA.out l[j] (List.getElem_mem h2)
      have ho := hin.out j h h2
      refine ⟨own_rds ho (by rw [strs_length, NT_len hx.nd]; have := hx.kl; unfold maxLen; omega) fun y hy => ?_, ?_, hone.out _ (List.getElem_mem h)⟩
      · obtain ⟨t, ht, rfl⟩ := List.mem_map.1 hy
        exact sz_ok5 t (nodeT_sz hx.nd hx.s t ht)
      · rcases own_two' ho hown (by decide) with h3 | h3
        · rw [h3]; simp
        · rw [← hg]; exact h3
end Go.Proofs.YtbehcmogndpkhaaGreatDoor
namespace Go.Proofs.YtbehcmogndpkhaaGreatDoor
set_option linter.unusedVariables false
set_option maxRecDepth 100000
open Go.ChangeShapes Go.WideShapes Go.ChangeAt Go.RowKit

/-- The loop: the first k nodes have been asked. -/
structure QI (p : List Nd) (g : Nat) (wb : World) (k : Nat) (us : List Value) (wr : World) : Prop where
  len : us.length = p.length
  cell : ∀ i (h : i < us.length), wr.cell? ⟨g, i, none⟩ = some us[i]
  frz : ∀ i, wr.frozen? ⟨g, i, none⟩ = false
  tx : ∀ i (h : i < us.length) (hq : i < p.length), TxAt g wr us[i] (rowTo NT p k i p[i])
  but : ButF [g] wb wr
  lt : g < wr.heap.size
theorem QI.kept {p : List Nd} {g k : Nat} {us : List Value} {wb wr w' : World} (h : QI p g wb k us wr) (hb : Below wr.heap.size wr w') : QI p g wb k us w' :=
  ⟨h.len, fun i hi => (hb.cell (p := ⟨g, i, none⟩) h.lt).trans (h.cell i hi), fun i => (hb.frozen (p := ⟨g, i, none⟩) h.lt).trans (h.frz i), fun i hi hq => (h.tx i hi hq).but (ButF.of_below hb), h.but.trans (ButF.of_below hb), Nat.lt_of_lt_of_le h.lt hb.size⟩
theorem QI.no {p : List Nd} {g k : Nat} {us : List Value} {wb wr w' : World} (h : QI p g wb k us wr) (hs : ∀ i (hi : i < p.length), rowTo NT p (k + 1) i p[i] = rowTo NT p k i p[i]) (hb : Below wr.heap.size wr w') : QI p g wb (k + 1) us w' := by
  have h' := h.kept hb
  exact ⟨h'.len, h'.cell, h'.frz, fun i hi hq => by rw [hs i hq]; exact h'.tx i hi hq, h'.but, h'.lt⟩
theorem QI.one {p : List Nd} {g k kn : Nat} {us : List Value} {wb wr wA : World} {v : Value} {T : List (List UInt8)} (h : QI p g wb k us wr) (hkn : kn < p.length) (hs : ∀ i (hi : i < p.length), rowTo NT p (k + 1) i p[i] = if i = kn then T else rowTo NT p k i p[i])
    (hb : Below wr.heap.size wr wA) (t : TxAt g wA v T) : QI p g wb (k + 1) (us.set kn v) (wA.setCell ⟨g, kn, none⟩ v) := by
  have h' := h.kept hb
  have hB := set_but g kn v wA
  have hlen := h'.len
  refine ⟨by simp [hlen], fun i hi => ?_, fun i => ?_, fun i hi hq => ?_, h'.but.trans hB, Nat.lt_of_lt_of_le h'.lt hB.size⟩
  · have hi' : i < us.length := by simpa using hi
    by_cases h1 : i = kn
    · subst h1
      rw [List.getElem_set_self]
      exact World.cell?_setCell_same _ _ _ (h'.cell i hi')
    · rw [List.getElem_set_ne (fun e => h1 e.symm), cell_off (fun e => h1 e.symm)]
      exact h'.cell i hi'
  · rw [World.frozen?_setCell]; exact h'.frz i
  · have hi' : i < us.length := by simpa using hi
    rw [hs i hq]
    by_cases h1 : i = kn
    · subst h1
      rw [List.getElem_set_self, if_pos rfl]
      exact t.but hB
    · rw [List.getElem_set_ne (fun e => h1 e.symm), if_neg h1]
      exact (h'.tx i hi' hq).but hB
theorem QI.two {p : List Nd} {g k kn : Nat} {us : List Value} {wb wr wA : World} {v1 v2 : Value} {T1 T2 : List (List UInt8)} (h : QI p g wb k us wr) (hk : k < p.length) (hkn : kn < p.length) (hne : k ≠ kn)
    (hs : ∀ i (hi : i < p.length), rowTo NT p (k + 1) i p[i] = if i = kn then T2 else if i = k then T1 else rowTo NT p k i p[i])
    (hb : Below wr.heap.size wr wA) (t1 : TxAt g wA v1 T1) (t2 : TxAt g wA v2 T2) :
    QI p g wb (k + 1) ((us.set k v1).set kn v2) ((wA.setCell ⟨g, k, none⟩ v1).setCell ⟨g, kn, none⟩ v2) := by
  have h' := h.kept hb
  have hB := (set_but g k v1 wA).trans (set_but g kn v2 _)
  have hlen := h'.len
  refine ⟨by simp [hlen], fun i hi => ?_, fun i => ?_, fun i hi hq => ?_, h'.but.trans hB, Nat.lt_of_lt_of_le h'.lt hB.size⟩
  · have hi' : i < us.length := by simpa using hi
    by_cases h1 : i = kn
    · subst h1
      rw [List.getElem_set_self]
      exact World.cell?_setCell_same _ _ _ ((cell_off (fun e => hne e)).trans (h'.cell i hi'))
    · rw [List.getElem_set_ne (fun e => h1 e.symm), cell_off (fun e => h1 e.symm)]
      by_cases h2 : i = k
      · subst h2
        rw [List.getElem_set_self]
        exact World.cell?_setCell_same _ _ _ (h'.cell i hi')
      · rw [List.getElem_set_ne (fun e => h2 e.symm), cell_off (fun e => h2 e.symm)]
        exact h'.cell i hi'
  · rw [World.frozen?_setCell, World.frozen?_setCell]; exact h'.frz i
  · have hi' : i < us.length := by simpa using hi
    rw [hs i hq]
    by_cases h1 : i = kn
    · subst h1
      rw [List.getElem_set_self, if_pos rfl]
      exact t2.but hB
    · rw [List.getElem_set_ne (fun e => h1 e.symm), if_neg h1]
      by_cases h2 : i = k
      · subst h2
        rw [List.getElem_set_self, if_pos rfl]
        exact t1.but hB
      · rw [List.getElem_set_ne (fun e => h2 e.symm), if_neg h2]
        exact (h'.tx i hi' hq).but hB
/-! ### What asking does, by the node -/
section
variable {p : List Nd} (hv : PgV p) {k : Nat} (hk : k < p.length)
include hv
theorem row_lone (h : p[k].kids = []) : ∀ i (hi : i < p.length), rowTo NT p (k + 1) i p[i] = rowTo NT p k i p[i] := fun i hi => by
  rw [hv.step NT hk hi, h]
  have hc : ¬ (i = k ∧ isConsN p[k] = true) := fun hh => by have := hv.cons1 hk hh.2; rw [h] at this; simp at this
  rw [if_neg (by simp), if_neg hc]
theorem row_cons {kn : Nat} (hc : isConsN p[k] = true) (h : p[k].kids = [(kn : Int)]) : ∀ i (hi : i < p.length), rowTo NT p (k + 1) i p[i] = if i = kn then [[40], [32, 58, 58, 32], [41]] else if i = k then [[], []] else rowTo NT p k i p[i] := fun i hi => by
  have hm : modeN p[k] = 1 := by simp [modeN, hc]
  rw [hv.step NT hk hi, h, hm]
  by_cases h1 : i = kn
  · subst h1; simp [rowM]
  · have h2 : ¬ ([(kn : Int)].head? = some (i : Int) ∧ ((1 : Nat) = 1 ∨ (1 : Nat) = 2 ∨ (1 : Nat) = 3 ∧ isLoneN p[i] = true)) := fun hh => by have := hh.1; simp at this; omega
    rw [if_neg h2, if_neg h1]
    simp [hc]
theorem row_rec {kn : Nat} {ks : List Int} (h8 : p[k].kind = 8) (hkn : kn < p.length) (h : p[k].kids = (kn : Int) :: ks) : ∀ i (hi : i < p.length), rowTo NT p (k + 1) i p[i] = if i = kn then [p[kn].s.toList ++ [32, 61, 32], []] else rowTo NT p k i p[i] := fun i hi => by
  have hc : isConsN p[k] = false := ncons h8 (by decide)
  have hm : modeN p[k] = 2 := by simp [modeN, hc, h8]
  rw [hv.step NT hk hi, h, hm]
  by_cases h1 : i = kn
  · subst h1; simp [rowM]
  · have h2 : ¬ (((kn : Int) :: ks).head? = some (i : Int) ∧ ((2 : Nat) = 1 ∨ (2 : Nat) = 2 ∨ (2 : Nat) = 3 ∧ isLoneN p[i] = true)) := fun hh => by have := hh.1; simp at this; omega
    rw [if_neg h2, if_neg h1]
    simp [hc]
theorem row_app {kn : Nat} {ks : List Int} (h6 : p[k].kind = 6) (hkn : kn < p.length) (h : p[k].kids = (kn : Int) :: ks) (hl : isLoneN p[kn] = true) : ∀ i (hi : i < p.length), rowTo NT p (k + 1) i p[i] = if i = kn then [[40] ++ p[kn].s.toList ++ [41]] else rowTo NT p k i p[i] := fun i hi => by
  have hc : isConsN p[k] = false := ncons h6 (by decide)
  have hm : modeN p[k] = 3 := by simp [modeN, hc, h6]
  rw [hv.step NT hk hi, h, hm]
  by_cases h1 : i = kn
  · subst h1; simp [rowM, hl]
  · have h2 : ¬ (((kn : Int) :: ks).head? = some (i : Int) ∧ ((3 : Nat) = 1 ∨ (3 : Nat) = 2 ∨ (3 : Nat) = 3 ∧ isLoneN p[i] = true)) := fun hh => by have := hh.1; simp at this; omega
    rw [if_neg h2, if_neg h1]
    simp [hc]
theorem row_no {kn : Nat} {ks : List Int} (hc : isConsN p[k] = false) (h8 : p[k].kind ≠ 8) (hkn : kn < p.length) (h : p[k].kids = (kn : Int) :: ks) (hl : p[k].kind = 6 → isLoneN p[kn] = false) : ∀ i (hi : i < p.length), rowTo NT p (k + 1) i p[i] = rowTo NT p k i p[i] := fun i hi => by
  rw [hv.step NT hk hi, h]
  have h2 : ¬ (((kn : Int) :: ks).head? = some (i : Int) ∧ (modeN p[k] = 1 ∨ modeN p[k] = 2 ∨ modeN p[k] = 3 ∧ isLoneN p[i] = true)) := by
    rintro ⟨h3, h4⟩
    have hi : i = kn := by simp at h3; omega
    subst hi
    unfold modeN at h4
    rw [hc] at h4
    by_cases h6 : p[k].kind = 6
    · simp [h6, hl h6] at h4
    · simp [h6, h8] at h4
  rw [if_neg h2]
  simp [hc]
end
/-! ### The loop's end -/
/-- The rows when all have been asked. -/
def rowsE (p : List Nd) : List (List (List UInt8)) := p.mapIdx fun i x => rowM NT (modeTo p p.length i) x
theorem rowsE_len (p : List Nd) : (rowsE p).length = p.length := by simp [rowsE]
theorem rowsE_get (p : List Nd) (i : Nat) (h : i < p.length) : (rowsE p)[i]? = some (rowM NT (modeTo p p.length i) p[i]) := by
  simp [rowsE, h]
theorem QI.fin {p : List Nd} {g cap : Nat} {us : List Value} {wb wr : World} (h : QI p g wb p.length us wr) (hm : p.length ≤ maxLen) (hcap : p.length ≤ cap) : RowRd 1 (RowEl 1 StrEl) wr (.slice (some ⟨g, 0, none⟩) ((rowsE p).map strs).length cap) ((rowsE p).map strs) := by
  have hl : ((rowsE p).map strs).length = p.length := by rw [List.length_map, rowsE_len]
  refine RowRd.mk (by omega) (by omega) fun h0 => ⟨g, 0, rfl, h.lt, fun i hi => ?_⟩
  have hq : i < p.length := by omega
  have hu : i < us.length := by rw [h.len]; exact hq
  have hp : (rowsE p)[i]'(by rw [rowsE_len]; exact hq) = rowTo NT p p.length i p[i] := by
    have := rowsE_get p i hq
    rw [List.getElem?_eq_getElem (by rw [rowsE_len]; exact hq)] at this
    injection this with this
    rw [this, rowTo_end _ _ _ _ hq]
  rw [Nat.mul_one, Nat.zero_add, List.getElem_map, hp]
  exact ⟨us[i], h.cell i hu, (h.tx i hu hq).r⟩
end Go.Proofs.YtbehcmogndpkhaaGreatDoor
