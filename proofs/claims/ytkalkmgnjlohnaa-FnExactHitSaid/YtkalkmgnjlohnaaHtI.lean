/- The program's helpers for a part of a value: numbers moved, a copy of nodes. -/
import Derived.Test.YtkalkmgnjlohnaaHtS
import Derived.Test.YtkalkmgnjlohnaaDoJ
import Derived.Lib.SliceRun
namespace Go.Proofs.Ytkalkmgnjlohnaa
set_option linter.unusedVariables false
set_option maxRecDepth 100000
open Go.ChangeShapes Go.WideShapes Go.ChangeAt Go.RowKit

theorem iMoved (y k : Int) (bo : Nat) (w : World) (hc : w.cell? ⟨bo, 0, none⟩ = some (.int .i64 k)) (h0 : 0 ≤ y) (h1 : y ≤ 600) (h2 : 0 ≤ k) (h3 : k ≤ 600) :
    Calls Try.prog 80 #[.int .i64 y, .pointer (some ⟨bo, 0, none⟩)] w fun e w' => e = .returned (.int .i64 (y - k)) ∧ Below w.heap.size w w' := by
  go_enter Try.func80, Try.ntmps80
  go_wp2
  go_ret
  exact ⟨rfl, Below.refl _ _⟩
theorem e_iMoved : ∀ args w, (callFunc 80 args).run Try.prog w = .ok (.enter 80 args) w := enters_of Try.func80 (by kernel_rfl) rfl
theorem iMapII (g : Nat) (lb : Array Value) (eg : ∀ args w, (callFunc g args).run Try.prog w = .ok (.enter g args) w) (f : Int → Int) (l : List Int) (v : Value) (w : World) (hR : RowRd 1 IntEl w v l) (hl : l.length ≤ 1048576) (hI : ∀ x ∈ l, I64 (f x))
    (hp : ∀ i (hi : i < l.length) (W : World), Below w.heap.size w W → Calls Try.prog g (#[.int .i64 l[i]] ++ lb) W fun e w' => e = .returned (.int .i64 (f l[i])) ∧ Below W.heap.size W w') :
    Calls Try.prog 82 #[v, .func (.func g) #[] lb] w fun e w' => ∃ (a : Option Addr) (c : Nat) (F : List Nat), e = .returned (.slice a l.length c) ∧ RowOwn 1 (Flat IntEl) w' (.slice a l.length c) (l.map f) F ∧ (∀ g ∈ F, w.heap.size ≤ g) ∧ F.Nodup ∧ Below w.heap.size w w' := by
  obtain ⟨p, cap, rfl, hm, hR⟩ := hR.form
  unfold maxLen at hm
  obtain ⟨ii, hi, hz0, hz1, hz2⟩ := info_parts info_int
  obtain ⟨w0, hmk, hown0, hgr0⟩ := run_make_own (P := Try.prog) w w.heap.size 53 3 ii (.int .i64 0) 1 Try.underlying53 hi hz0 hz1 .i64 .i64 l.length (by rw [hz2]; omega) (by unfold maxLen; omega) (Nat.le_refl _)
  have hb0 : Below w.heap.size w w0 := (Below.refl _ _).grown hgr0 (Nat.le_refl _) (fun k hk => by simp at hk)
  have hI' : ∀ x ∈ l.map f, I64 x := by
    intro x hx
    obtain ⟨y, hy, rfl⟩ := List.mem_map.1 hx
    exact hI y hy
  go_enter Try.func82, Try.ntmps82
  go_wp2
  go_loopw [5, 13] (fun nx i wr => ∃ k : Nat, i = .int .i64 k ∧ k ≤ l.length ∧ wr.ownsRow w.heap.size 3 1 nx ((l.take k).map f).length (ic ((l.take k).map f)) ∧ Below w.heap.size w wr ∧ w.heap.size ≤ wr.heap.size) (fun _ i _ => l.length - (intOf i).toNat)
  case atStart => exact ⟨0, rfl, Nat.zero_le _, hown0, hb0, hb0.size⟩
  case round =>
    obtain ⟨k, rfl, hk, hown, hbel, hsz⟩ := hrel
    have hlen : ((l.take k).map f).length = k := by simp; omega
    by_cases hlt : k < l.length
    · obtain ⟨b, o, rfl, hbw, hc⟩ := hR (by omega)
      obtain ⟨e0, i0, i1⟩ := IntEl.st w wr b _ _ (Kept.of_below hbel) hbw (hc k hlt)
      rw [Nat.mul_one] at e0
      have HT := Lib.hid (take_map_succ f l k hlt)
      have hag := hp k hlt wr hbel
      clear hc hR hmk hown0 hgr0 hb0 hp hI hI'
      generalize l[k] = x at *
      generalize f x = fx at *
      go_wp2_with (first
        | (go_at_fn g; refine hag.mono ?_; rintro e w1 ⟨rfl, hb⟩; have hown1 := own_below hown hb; have hbel1 := below_tr hbel hb; have hsz1 := Nat.le_trans hsz hb.size)
        | (at_builtin; refine wpList_append_own _ rfl (.tmp 17) (.tmp 21) 53 rfl w.heap.size 3 ii (.int .i64 0) 1 8 Try.underlying53 hi hz0 hz1 hz2 rfl (by decide) _ ((l.take k).map f).length (ic ((l.take k).map f)) rfl (hown1.alloc _) ⟨w1.heap.size, 0, none⟩ 1 1 [.int .i64 fx] rfl rfl (new_cells _ _ _ _ rfl) (ic_one [fx]) (by unfold maxLen; omega) (by omega) (by simp; omega) ?_; intro v' w2 hown' hgrow _))
      have R := own_app hown1 hbel1 (Nat.le_refl _) hsz1 hgrow
      have O := own_i rfl rfl (l' := [fx]) rfl rfl hown'
      clear hown hown1 hown' hgrow hbel hbel1
      go_roundw
      case rel => exact ⟨k + 1, by go_num, by omega, by rw [HT.out]; exact O, R.1, R.2⟩
      case measure => simp [intOf]; omega
    · obtain rfl : k = l.length := by omega
      rw [List.take_length] at hown
      have hF := own_ints hown hI'
      obtain ⟨a, c, rfl⟩ := own_sl hown
      have hml : (l.map f).length = l.length := List.length_map ..
      obtain ⟨F, hF1, hF2, hF3⟩ := hF
      rw [hml] at hF1
      have HF := Lib.hid hF1
      clear hR hmk hown0 hgr0 hb0 hp hF1 hown
      go_wp2
      go_ret
      exact ⟨a, c, F, by rw [hml]; rfl, HF.out, hF2, hF3, hbel⟩
theorem iClone (b o m c : Nat) (news : List Value) (w : World) (hl : news.length = m * 4) (hc : ∀ j u, news[j]? = some u → w.cell? ((⟨b, o, none⟩ : Addr).add j) = some u) (h1 : ∀ u ∈ news, u.oneCell' = true) (hm : m ≤ 600) (hb : b < w.heap.size) :
    Calls Try.prog 81 #[.slice (some ⟨b, o, none⟩) m c] w fun e w' => ∃ v', e = .returned v' ∧ w'.ownsRow w.heap.size 55 4 v' m news ∧ Below w.heap.size w w' := by
  obtain ⟨jj, hi, hz0, hz1, hz2⟩ := info_parts info_dnode
  have hc2 : ∀ j u, news[j]? = some u → (w.alloc (.cells #[] 55)).cell? ((⟨b, o, none⟩ : Addr).add j) = some u := by
    intro j u hj
    have hp : (⟨b, o, none⟩ : Addr).add j = ⟨b, o + j, none⟩ := by unfold Addr.add; split <;> simp_all
    have := hc j u hj
    rw [hp] at this ⊢
    exact ((Kept.alloc w _).cell b _ hb).trans this
  have hO : (w.alloc (.cells #[] 55)).ownsRow w.heap.size 55 4 (.slice (some ⟨w.heap.size, 0, none⟩) 0 0) 0 [] := World.ownsRow_lit w #[] 0 (Nat.le_refl _) (by decide) (by simp)
  have q27 : ∀ (w : World) (a : Option Addr) (n c n' c' : Nat), (binOp .eql 27 (.slice a n c) (.slice none n' c')).run Try.prog w = .ok (.bool a.isNone) w := fun w a n c n' c' => Lib.run_eql_slice_nil w _ _ a n c n' c' Try.underlying27
  have hm1 : 0 + m ≤ maxLen := by unfold maxLen; omega
  have hm2 : (0 + m) * 56 ≤ 140737488355328 := by omega
  go_enter Try.func81, Try.ntmps81
  go_wp2_with (at_builtin; refine wpList_append_own _ rfl (.tmp 5) (.tmp 6) 27 rfl w.heap.size 55 jj (.agg #[.int .i64 0, .int .i64 0, .string ⟨#[]⟩, .slice none 0 0]) 4 56 Try.underlying27 hi hz0 hz1 hz2 rfl (by decide) _ 0 [] rfl hO ⟨b, o, none⟩ m c news rfl hl hc2 h1 hm1 hm2 (by simp) ?_; intro v' w2 hown' hgrow _)
  go_ret
  refine ⟨v', rfl, ?_, ?_⟩
  · rw [Nat.zero_add, List.nil_append] at hown'; exact hown'
  · have hb1 : Below w.heap.size w (w.alloc (.cells #[] 55)) := Joins.below_alloc1 w _
    refine hb1.grown hgrow (by simp) fun k hk => ?_
    have := (hO.lt k hk).1
    omega
theorem iLooks (n : PN) (v : DN) (u3 v3 : Value) (w : World) (hn : RowRd 1 IntEl w u3 n.kids) (hv : RowRd 1 IntEl w v3 v.kids) (i2 : n.s.size ≤ maxLen) (j2 : v.s.size ≤ maxLen) :
    Calls Try.prog 66 #[.agg #[.int .i64 n.kind, .int .i64 n.n, .string n.s, u3], .agg #[.int .i64 v.kind, .int .i64 v.n, .string v.s, v3]] w fun e w' => e = .returned (.bool (likeB n v)) ∧ Below w.heap.size w w' := by
  obtain ⟨p, c, rfl, hm, -⟩ := hn.form
  obtain ⟨p2, c2, rfl, hm2, -⟩ := hv.form
  clear hn hv
  have HF := Lib.hid (show likeB n v = (decide (n.kind = v.kind) && (decide (n.n = v.n) && (decide (n.s.toList = v.s.toList) && decide (n.kids.length = v.kids.length)))) from rfl)
  by_cases h1 : n.kind = v.kind
  · have q1 : (n.kind == v.kind) = true := by simpa using h1
    by_cases h2 : n.n = v.n
    · have q2 : (n.n == v.n) = true := by simpa using h2
      by_cases h3 : n.s.toList = v.s.toList
      · have q3 : (n.s.toList == v.s.toList) = true := by simpa using h3
        by_cases h4 : n.kids.length = v.kids.length
        · have q4 : ((n.kids.length : Int) == (v.kids.length : Int)) = true := by rw [beq_iff_eq]; omega
          have q5 : (n.kids.length == v.kids.length) = true := by rw [beq_iff_eq]; omega
          have HR := Lib.hid (show likeB n v = true from by rw [HF.out]; simp [h1, h2, h3, h4])
          clear h1 h2 h3 h4 HF
          go_enter Try.func66, Try.ntmps66
          go_wp2
          go_ret
          exact ⟨ret_bool HR.out.symm, Joins.below_alloc2 w _ _⟩
        · have q4 : ((n.kids.length : Int) == (v.kids.length : Int)) = false := by rw [beq_eq_false_iff_ne]; omega
          have q5 : (n.kids.length == v.kids.length) = false := by rw [beq_eq_false_iff_ne]; omega
          have HR := Lib.hid (show likeB n v = false from by rw [HF.out]; simp [h1, h2, h3, h4])
          clear h1 h2 h3 h4 HF
          go_enter Try.func66, Try.ntmps66
          go_wp2
          go_ret
          exact ⟨ret_bool HR.out.symm, Joins.below_alloc2 w _ _⟩
      · have q3 : (n.s.toList == v.s.toList) = false := by simpa using h3
        have HR := Lib.hid (show likeB n v = false from by rw [HF.out]; simp [h1, h2, h3])
        clear h1 h2 h3 HF
        go_enter Try.func66, Try.ntmps66
        go_wp2
        go_ret
        exact ⟨ret_bool HR.out.symm, Joins.below_alloc2 w _ _⟩
    · have q2 : (n.n == v.n) = false := by simpa using h2
      have HR := Lib.hid (show likeB n v = false from by rw [HF.out]; simp [h1, h2])
      clear h1 h2 HF
      go_enter Try.func66, Try.ntmps66
      go_wp2
      go_ret
      exact ⟨ret_bool HR.out.symm, Joins.below_alloc2 w _ _⟩
  · have q1 : (n.kind == v.kind) = false := by simpa using h1
    have HR := Lib.hid (show likeB n v = false from by rw [HF.out]; simp [h1])
    clear h1 HF
    go_enter Try.func66, Try.ntmps66
    go_wp2
    go_ret
    exact ⟨ret_bool HR.out.symm, Joins.below_alloc2 w _ _⟩
end Go.Proofs.Ytkalkmgnjlohnaa
