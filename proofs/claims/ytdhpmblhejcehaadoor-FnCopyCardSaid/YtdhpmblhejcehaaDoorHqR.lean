/- What the program marks in a heap, with a stack. -/
import Derived.Test.YtdhpmblhejcehaaDoorHqM
import Derived.Test.YtdhpmblhejcehaaDoorHpRow
import Derived.Test.YtdhpmblhejcehaaDoorHpW
import Derived.Lib.SliceRun
namespace Go.Proofs.YtdhpmblhejcehaaDoor
set_option linter.unusedVariables false
set_option maxRecDepth 100000
open Go.ChangeShapes Go.WideShapes Go.ChangeAt Go.RowKit

set_option maxHeartbeats 1000000 in
theorem iCloneVl (l : List Vl) (v : Value) (w : World) (h : RowRd 3 VlEl w v l) (hl : l.length ≤ 1048576) :
    Calls Tryd.prog 49 #[v] w fun e w' => ∃ v', e = .returned v' ∧ w'.ownsRow w.heap.size 33 3 v' l.length (vc l) ∧ Below w.heap.size w w' := by
  obtain ⟨jj, hi, hz0, hz1, hz2⟩ := info_parts info_vl
  obtain ⟨a, c, rfl, hm, hR⟩ := h.form
  have q27 : ∀ (w : World) (a : Option Addr) (n c n' c' : Nat), (binOp .eql 24 (.slice a n c) (.slice none n' c')).run Tryd.prog w = .ok (.bool a.isNone) w := fun w a n c n' c' => Lib.run_eql_slice_nil w _ _ a n c n' c' Tryd.underlying24
  cases a with
  | none =>
    obtain rfl : l = [] := List.eq_nil_of_length_eq_zero (by
      by_cases h0 : 0 < l.length
      · obtain ⟨b, o, e, _⟩ := hR h0; cases e
      · omega)
    clear hR h
    go_enter Tryd.func49, Tryd.ntmps49
    go_wp2
    go_ret
    exact ⟨_, rfl, World.ownsRow_nil _ _ _ _, Below.refl _ _⟩
  | some ad =>
    have hc2 : ∀ j u, (vc l)[j]? = some u → (w.alloc (.cells #[] 33)).cell? (ad.add j) = some u := by
      intro j u hj
      have hjl : j < l.length * 3 := by rw [← vc_len]; exact (List.getElem?_eq_some_iff.1 hj).1
      obtain ⟨b, o, e, hb, hc⟩ := hR (by omega)
      cases e
      have hp : (⟨b, o, none⟩ : Addr).add j = ⟨b, o + j, none⟩ := by unfold Addr.add; split <;> simp_all
      rw [hp]
      exact ((Kept.alloc w _).cell b _ hb).trans (vc_read hc j u hj)
    have hO : (w.alloc (.cells #[] 33)).ownsRow w.heap.size 33 3 (.slice (some ⟨w.heap.size, 0, none⟩) 0 0) 0 [] := World.ownsRow_lit w #[] 0 (Nat.le_refl _) (by decide) (by simp)
    have hm1 : 0 + l.length ≤ maxLen := by unfold maxLen; omega
    have hm2 : (0 + l.length) * 32 ≤ 140737488355328 := by omega
    have hnl := vc_len l
    have h1c := vc_cell l
    clear hR h
    go_enter Tryd.func49, Tryd.ntmps49
    go_wp2_with (at_builtin; refine wpList_append_own _ rfl (.tmp 5) (.tmp 6) 24 rfl w.heap.size 33 jj (.agg #[.int .i64 0, .int .i64 0, .string ⟨#[]⟩]) 3 32 Tryd.underlying24 hi hz0 hz1 hz2 rfl (by decide) _ 0 [] rfl hO ad l.length c (vc l) rfl hnl hc2 h1c hm1 hm2 (by simp) ?_; intro v' w2 hown' hgrow _)
    go_ret
    refine ⟨v', rfl, ?_, ?_⟩
    · rw [Nat.zero_add, List.nil_append] at hown'; exact hown'
    · have hb1 : Below w.heap.size w (w.alloc (.cells #[] 33)) := Joins.below_alloc1 w _
      refine hb1.grown hgrow (by simp) fun k hk => ?_
      have := (hO.lt k hk).1
      omega
end Go.Proofs.YtdhpmblhejcehaaDoor
