/- The program's texts of a pattern's nodes. -/
import Derived.Test.YtcllifmaokldbaaDoorOkY4
import Derived.Test.YtcllifmaokldbaaDoorPrT
import Derived.Test.YtcllifmaokldbaaDoorPpS
namespace Go.Proofs.YtcllifmaokldbaaDoor
set_option linter.unusedVariables false
set_option maxRecDepth 100000
open Go.ChangeShapes Go.WideShapes Go.ChangeAt Go.RowKit

theorem pn_name {n : PN} (hn : isPNB n = true) : n.s.size ≤ 12 := by
  have hns : n.s.toList.length ≤ 12 := by
    rcases pk_range hn with hk | hk | hk | hk | hk | hk
    all_goals unfold isPNB pnodeB at hn; rw [hk] at hn; simp at hn
    · simp [hn.2.1]
    · have := hn.2.1
      unfold nameB wordB lenB at this
      simp only [Bool.and_eq_true, decide_eq_true_eq] at this
      rw [pr_toList]; exact this.1.1.2
    · simp [hn.2.2.1]
    · have := hn.2
      unfold conOkB at this
      split at this
      · rename_i hh; rw [hh]; simp
      · split at this
        · rename_i hh; rcases hh with hh | hh | hh <;> rw [hh] <;> simp
        · simp only [Bool.and_eq_true] at this
          have := this.1
          unfold conB wordB lenB at this
          simp only [Bool.and_eq_true, decide_eq_true_eq] at this
          rw [pr_toList]; exact this.1.1.2
    · simp [hn.2.1]
    · simp [hn.2.1]
  rw [pr_toList] at hns; exact hns
theorem pn_int {n : PN} (hn : isPNB n = true) (hk : n.kind = 3) : -4611686018427387904 ≤ n.n ∧ n.n ≤ 4611686018427387903 := by
  unfold isPNB pnodeB at hn; rw [hk] at hn; simp at hn; omega
theorem pT_ok {n : PN} (hn : isPNB n = true) : (pTexts numL n).length ≤ 3 ∧ ∀ t ∈ pTexts numL n, t.length ≤ 40 := by
  have h12 : n.s.toList.length ≤ 12 := by rw [pr_toList]; exact pn_name hn
  unfold pTexts
  rcases pk_range hn with hk | hk | hk | hk | hk | hk
  · rw [if_neg (by omega), if_neg (by omega), if_neg (by omega), if_neg (by omega), if_neg (by omega)]; simp
  · rw [if_pos hk]; simp; omega
  · have := pn_int hn hk
    have := numL_len24 n.n this.1 this.2
    rw [if_neg (by omega), if_pos hk]; simp; omega
  · rw [if_neg (by omega), if_neg (by omega), if_pos hk]; split <;> simp <;> omega
  · rw [if_neg (by omega), if_neg (by omega), if_neg (by omega), if_pos hk]; simp
  · rw [if_neg (by omega), if_neg (by omega), if_neg (by omega), if_neg (by omega), if_pos hk]; simp
/-- The texts of a constructor. -/
def conT (s : List UInt8) (c : Nat) : List (List UInt8) := if c = 0 then [s] else [[40] ++ s ++ [32], [41]]
abbrev TxPost (w : World) (T : List (List UInt8)) : Ending → World → Prop := fun e w' => ∃ v', e = .returned v' ∧ RowRd 1 StrEl w' v' (strs T) ∧ w'.ownsRow w.heap.size 9 1 v' (strs T).length (sc (strs T)) ∧ Below w.heap.size w w'
set_option maxHeartbeats 4000000 in
theorem iConTexts (s : ByteArray) (c : Nat) (w : World) (hs : s.size ≤ 12) : Calls Tryd.prog 33 #[.string s, .int .i64 c] w (TxPost w (conT s.toList c)) := by
  have hnd : s.data.toList.length ≤ 12 := hs
  by_cases hc : c = 0
  · subst hc
    have HB := Lib.hid (show strs (conT s.toList 0) = [s] from by rw [conT, if_pos rfl, pr_toList]; rfl)
    go_enter Tryd.func33, Tryd.ntmps33
    go_wp2
    go_ret
    refine ⟨_, rfl, ?_, ?_, Joins.below_alloc1 w _⟩
    · rw [HB.out]
      exact lit_strs (by simp) rfl rfl (all1 (by unfold maxLen; omega)) (by simp; unfold maxLen; omega)
    · rw [HB.out]
      exact lit_own (by simp) (by simp) rfl rfl (by simp; unfold maxLen; omega)
  · have HB := Lib.hid (show strs (conT s.toList c) = [⟨(cat [⟨#[40]⟩, s, ⟨#[32]⟩]).toArray⟩, ⟨#[41]⟩] from by rw [conT, if_neg hc, pr_toList]; simp [strs, cat])
    have hcl : (cat [⟨#[40]⟩, s, ⟨#[32]⟩]).length ≤ 100 := by simp [cat]; omega
    have t0 : ((c : Int) == 0) = false := by simp; omega
    have HJ := Lib.hid fun (W : World) (n : Nat) (hn : n = W.heap.size) => joined n 0 3 [⟨#[40]⟩, s, ⟨#[32]⟩] (W.alloc (.cells #[.string ⟨#[40]⟩, .string s, .string ⟨#[32]⟩] 9)) (strs_at _ _ _ _ _ hn rfl) (by simp [hn]) (by simp) (by simp) (by omega)
    generalize cat [⟨#[40]⟩, s, ⟨#[32]⟩] = t at *
    go_enter Tryd.func33, Tryd.ntmps33
    go_wp2_with (go_at_call 38; go_loud (refine (HJ.out _ _ (by simp)).mono ?_); rintro e w1 ⟨rfl, hb⟩)
    go_ret
    refine ⟨_, rfl, ?_, ?_, (below_tr (Joins.below_alloc1 w _) hb).trans ((Joins.below_alloc1 w1 _).mono (by have := hb.size; simp at this; omega))⟩
    · rw [HB.out]
      exact lit_strs rfl rfl rfl (all2 (sz_ok _ (by omega)) (sz_ok [41] (by simp))) (by simp; unfold maxLen; omega)
    · rw [HB.out]
      exact lit_own rfl (by have := hb.size; simp at this; omega) rfl rfl (by simp; unfold maxLen; omega)
set_option maxHeartbeats 4000000 in
theorem iPnTexts (n : PN) (pk : Option Addr) (ck : Nat) (w : World) (hn : isPNB n = true) (htab : Lib.TabIs Tryd.prog w "internal/strconv.uint64pow10" .u64 Lib.pow10Tab) :
    Calls Tryd.prog 15 #[.agg #[.int .i64 n.kind, .int .i64 n.n, .string n.s, .slice pk n.kids.length ck]] w (TxPost w (pTexts numL n)) := by
  have h12 := pn_name hn
  have hnd : n.s.data.toList.length ≤ 12 := h12
  rcases pk_range hn with hk | hk | hk | hk | hk | hk
  · have HB := Lib.hid (show strs (pTexts numL n) = [⟨#[95]⟩] from by unfold pTexts; rw [if_neg (by omega), if_neg (by omega), if_neg (by omega), if_neg (by omega), if_neg (by omega)]; rfl)
    rw [hk]
    clear hn htab
    go_enter Tryd.func15, Tryd.ntmps15
    go_wp2
    go_ret
    refine ⟨_, rfl, ?_, ?_, Joins.below_alloc2 w _ _⟩
    · rw [HB.out]; exact lit_strs (by simp) rfl rfl (all1 (sz_ok [95] (by simp))) (by simp; unfold maxLen; omega)
    · rw [HB.out]; exact lit_own (by simp) (by simp) rfl rfl (by simp; unfold maxLen; omega)
  · have HB := Lib.hid (show strs (pTexts numL n) = [n.s] from by unfold pTexts; rw [if_pos hk, pr_toList]; rfl)
    rw [hk]
    clear hn htab
    go_enter Tryd.func15, Tryd.ntmps15
    go_wp2
    go_ret
    refine ⟨_, rfl, ?_, ?_, Joins.below_alloc2 w _ _⟩
    · rw [HB.out]; exact lit_strs (by simp) rfl rfl (all1 (by unfold maxLen; omega)) (by simp; unfold maxLen; omega)
    · rw [HB.out]; exact lit_own (by simp) (by simp) rfl rfl (by simp; unfold maxLen; omega)
  · obtain ⟨v0, v1⟩ := pn_int hn hk
    have HB := Lib.hid (show strs (pTexts numL n) = [⟨(numL n.n).toArray⟩] from by unfold pTexts; rw [if_neg (by omega), if_pos hk]; rfl)
    have hl := numL_len24 n.n v0 v1
    have HN := fun (O : Obj) => Lib.hid (iNumText n.n (w.alloc O) (by omega) (tab_below htab (Joins.below_alloc1 w O)))
    rw [hk]
    clear hn htab
    generalize numL n.n = t at *
    go_enter Tryd.func15, Tryd.ntmps15
    go_wp2_with (go_at_call 32; go_loud (refine (HN _).out.mono ?_); rintro e w1 ⟨rfl, hb⟩)
    go_ret
    refine ⟨_, rfl, ?_, ?_, (below_tr (Joins.below_alloc1 w _) hb).trans ((Joins.below_alloc1 w1 _).mono (by have := hb.size; simp at this; omega))⟩
    · rw [HB.out]; exact lit_strs rfl rfl rfl (all1 (sz_ok _ (by omega))) (by simp; unfold maxLen; omega)
    · rw [HB.out]; exact lit_own rfl (by have := hb.size; simp at this; omega) rfl rfl (by simp; unfold maxLen; omega)
  · have HB := Lib.hid (show pTexts numL n = conT n.s.toList n.kids.length from by unfold pTexts; rw [if_neg (by omega), if_neg (by omega), if_pos hk]; rfl)
    have HC := fun W => Lib.hid (iConTexts n.s n.kids.length W h12)
    rw [hk]
    clear hn htab
    go_enter Tryd.func15, Tryd.ntmps15
    go_wp2_with (go_at_call 33; go_loud (refine (HC _).out.mono ?_); rintro e w1 ⟨v1, rfl, r1, o1, hb⟩)
    go_ret
    rw [HB.out]
    exact ⟨_, rfl, r1, own_down o1 (by simp), below_tr (Joins.below_alloc1 w _) hb⟩
  · have HB := Lib.hid (show strs (pTexts numL n) = [⟨#[40]⟩, ⟨#[44, 32]⟩, ⟨#[41]⟩] from by unfold pTexts; rw [if_neg (by omega), if_neg (by omega), if_neg (by omega), if_pos hk]; rfl)
    rw [hk]
    clear hn htab
    go_enter Tryd.func15, Tryd.ntmps15
    go_wp2
    go_ret
    refine ⟨_, rfl, ?_, ?_, Joins.below_alloc2 w _ _⟩
    · rw [HB.out]; exact lit_strs (by simp) rfl rfl (all3 (sz_ok [40] (by simp)) (sz_ok [44, 32] (by simp)) (sz_ok [41] (by simp))) (by simp; unfold maxLen; omega)
    · rw [HB.out]; exact lit_own (by simp) (by simp) rfl rfl (by simp; unfold maxLen; omega)
  · have HB := Lib.hid (show strs (pTexts numL n) = [⟨#[40, 41]⟩] from by unfold pTexts; rw [if_neg (by omega), if_neg (by omega), if_neg (by omega), if_neg (by omega), if_pos hk]; rfl)
    rw [hk]
    clear hn htab
    go_enter Tryd.func15, Tryd.ntmps15
    go_wp2
    go_ret
    refine ⟨_, rfl, ?_, ?_, Joins.below_alloc2 w _ _⟩
    · rw [HB.out]; exact lit_strs (by simp) rfl rfl (all1 (sz_ok [40, 41] (by simp))) (by simp; unfold maxLen; omega)
    · rw [HB.out]; exact lit_own (by simp) (by simp) rfl rfl (by simp; unfold maxLen; omega)
/-- The texts of a '::' and of its pair. -/
theorem iConsTexts (w : World) : Calls Tryd.prog 17 #[] w fun e w' => e = .returned (.tuple #[.slice (some ⟨w.heap.size, 0, none⟩) 2 2, .slice (some ⟨w.heap.size + 1, 0, none⟩) 3 3]) ∧ RowRd 1 StrEl w' (.slice (some ⟨w.heap.size, 0, none⟩) 2 2) (strs [[], []]) ∧ RowRd 1 StrEl w' (.slice (some ⟨w.heap.size + 1, 0, none⟩) 3 3) (strs [[40], [32, 58, 58, 32], [41]]) ∧ Below w.heap.size w w' := by
  have HB := Lib.hid (show strs [[], []] = [⟨#[]⟩, ⟨#[]⟩] from rfl)
  have HB2 := Lib.hid (show strs [[40], [32, 58, 58, 32], [41]] = [⟨#[40]⟩, ⟨#[32, 58, 58, 32]⟩, ⟨#[41]⟩] from rfl)
  go_enter Tryd.func17, Tryd.ntmps17
  go_wp2
  refine bodyPost_ret (v := .tuple #[.slice (some ⟨w.heap.size, 0, none⟩) 2 2, .slice (some ⟨w.heap.size + 1, 0, none⟩) 3 3]) (by simp [results, Tryd.results17, go_sem]) rfl ⟨rfl, ?_, ?_, Joins.below_alloc2 w _ _⟩
  · rw [HB.out]
    exact (lit_strs (by simp) rfl rfl (all2 (sz_ok [] (by simp)) (sz_ok [] (by simp))) (by simp; unfold maxLen; omega)).kept StrEl.st (Kept.alloc _ _)
  · rw [HB2.out]
    exact lit_strs (by simp) rfl rfl (all3 (sz_ok [40] (by simp)) (sz_ok [32, 58, 58, 32] (by simp)) (sz_ok [41] (by simp))) (by simp; unfold maxLen; omega)
end Go.Proofs.YtcllifmaokldbaaDoor
