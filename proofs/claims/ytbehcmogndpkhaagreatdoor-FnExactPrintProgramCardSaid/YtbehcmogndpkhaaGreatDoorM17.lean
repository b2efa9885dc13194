/- Texts of this proof, merged: PpI, PpW, PpV, PpT, Joined, QuoteI, QpJ. -/
import Derived.Test.YtbehcmogndpkhaaGreatDoorM16
import Derived.Test.YtbehcmogndpkhaaGreatDoorM15
import Derived.Test.YtbehcmogndpkhaaGreatDoorM9
import Derived.Test.YtbehcmogndpkhaaGreatDoorRows
import Derived.Test.YtbehcmogndpkhaaGreatDoorM11
import Derived.Test.YtbehcmogndpkhaaGreatDoorM12
import Derived.Test.YtbehcmogndpkhaaGreatDoorM8
import Derived.WalkKit
import Derived.ProofKit
import Derived.OpenShut
namespace Go.Proofs.YtbehcmogndpkhaaGreatDoor
set_option linter.unusedVariables false
set_option maxRecDepth 100000
open Go.ChangeShapes Go.WideShapes Go.ChangeAt Go.RowKit

theorem pn_name {n : PN} (hn : isPNB n = true) : n.s.size ≤ 12 := by
  have hns : n.s.toList.length ≤ 12 := by
    rcases pk_range hn with hk | hk | hk | hk | hk | hk
    all_goals unfold isPNB pnodeB at hn; rw [hk] at hn; simp at hn
    · simp [hn.2.1]
    · have := hn.2.1
      unfold nameB wordB lenB at this
      simp only [Bool.and_eq_true, decide_eq_true_eq] at this
      rw [pr_toList]; exact this.1.1.2
    · simp [hn.2.2.1]
    · have := hn.2
      unfold conOkB at this
      split at this
      · rename_i hh; rw [hh]; simp
      · split at this
        · rename_i hh; rcases hh with hh | hh | hh <;> rw [hh] <;> simp
        · simp only [Bool.and_eq_true] at this
          have := this.1
          unfold conB wordB lenB at this
          simp only [Bool.and_eq_true, decide_eq_true_eq] at this
          rw [pr_toList]; exact this.1.1.2
    · simp [hn.2.1]
    · simp [hn.2.1]
  rw [pr_toList] at hns; exact hns
theorem pn_int {n : PN} (hn : isPNB n = true) (hk : n.kind = 3) : -4611686018427387904 ≤ n.n ∧ n.n ≤ 4611686018427387903 := by
  unfold isPNB pnodeB at hn; rw [hk] at hn; simp at hn; omega
theorem pT_ok {n : PN} (hn : isPNB n = true) : (pTexts numL n).length ≤ 3 ∧ ∀ t ∈ pTexts numL n, t.length ≤ 40 := by
  have h12 : n.s.toList.length ≤ 12 := by rw [pr_toList]; exact pn_name hn
  unfold pTexts
  rcases pk_range hn with hk | hk | hk | hk | hk | hk
  · rw [if_neg (by omega), if_neg (by omega), if_neg (by omega), if_neg (by omega), if_neg (by omega)]; simp
  · rw [if_pos hk]; simp; omega
  · have := pn_int hn hk
    have := numL_len24 n.n this.1 this.2
    rw [if_neg (by omega), if_pos hk]; simp; omega
  · rw [if_neg (by omega), if_neg (by omega), if_pos hk]; split <;> simp <;> omega
  · rw [if_neg (by omega), if_neg (by omega), if_neg (by omega), if_pos hk]; simp
  · rw [if_neg (by omega), if_neg (by omega), if_neg (by omega), if_neg (by omega), if_pos hk]; simp
/-- The texts of a constructor. -/
def conT (s : List UInt8) (c : Nat) : List (List UInt8) := if c = 0 then [s] else [[40] ++ s ++ [32], [41]]
abbrev TxPost (w : World) (T : List (List UInt8)) : Ending → World → Prop := fun e w' => ∃ v', e = .returned v' ∧ RowRd 1 StrEl w' v' (strs T) ∧ w'.ownsRow w.heap.size 9 1 v' (strs T).length (sc (strs T)) ∧ Below w.heap.size w w'
set_option maxHeartbeats 4000000 in
theorem iConTexts (s : ByteArray) (c : Nat) (w : World) (hs : s.size ≤ 12) : Calls Tryz.prog 74 #[.string s, .int .i64 c] w (TxPost w (conT s.toList c)) := by
  have hnd : s.data.toList.length ≤ 12 := hs
  by_cases hc : c = 0
  · subst hc
    have HB := Lib.hid (show strs (conT s.toList 0) = [s] from by rw [conT, if_pos rfl, pr_toList]; rfl)
    go_enter Tryz.func74, Tryz.ntmps74
    go_wp2
    go_ret
    refine ⟨_, rfl, ?_, ?_, Joins.below_alloc1 w _⟩
    · rw [HB.out]
      exact lit_strs (by simp) rfl rfl (all1 (by unfold maxLen; omega)) (by simp; unfold maxLen; omega)
    · rw [HB.out]
      exact lit_own (by simp) (by simp) rfl rfl (by simp; unfold maxLen; omega)
  · have HB := Lib.hid (show strs (conT s.toList c) = [⟨(cat [⟨#[40]⟩, s, ⟨#[32]⟩]).toArray⟩, ⟨#[41]⟩] from by rw [conT, if_neg hc, pr_toList]; simp [strs, cat])
    have hcl : (cat [⟨#[40]⟩, s, ⟨#[32]⟩]).length ≤ 100 := by simp [cat]; omega
    have t0 : ((c : Int) == 0) = false := by simp; omega
    have HJ := Lib.hid fun (W : World) (n : Nat) (hn : n = W.heap.size) => joined n 0 3 [⟨#[40]⟩, s, ⟨#[32]⟩] (W.alloc (.cells #[.string ⟨#[40]⟩, .string s, .string ⟨#[32]⟩] 9)) (strs_at _ _ _ _ _ hn rfl) (by simp [hn]) (by simp) (by simp) (by omega)
    generalize cat [⟨#[40]⟩, s, ⟨#[32]⟩] = t at *
    go_enter Tryz.func74, Tryz.ntmps74
    go_wp2_with (go_at_call 27; go_loud (refine (HJ.out _ _ (by simp)).mono ?_); rintro e w1 ⟨rfl, hb⟩)
    go_ret
    refine ⟨_, rfl, ?_, ?_, (below_tr (Joins.below_alloc1 w _) hb).trans ((Joins.below_alloc1 w1 _).mono (by have := hb.size; simp at this; omega))⟩
    · rw [HB.out]
      exact lit_strs rfl rfl rfl (all2 (sz_ok _ (by omega)) (sz_ok [41] (by simp))) (by simp; unfold maxLen; omega)
    · rw [HB.out]
      exact lit_own rfl (by have := hb.size; simp at this; omega) rfl rfl (by simp; unfold maxLen; omega)
set_option maxHeartbeats 4000000 in
theorem iPnTexts (n : PN) (pk : Option Addr) (ck : Nat) (w : World) (hn : isPNB n = true) (htab : Lib.TabIs Tryz.prog w "internal/strconv.uint64pow10" .u64 Lib.pow10Tab) :
    Calls Tryz.prog 201 #[.agg #[.int .i64 n.kind, .int .i64 n.n, .string n.s, .slice pk n.kids.length ck]] w (TxPost w (pTexts numL n)) := by
  have h12 := pn_name hn
  have hnd : n.s.data.toList.length ≤ 12 := h12
  rcases pk_range hn with hk | hk | hk | hk | hk | hk
  · have HB := Lib.hid (show strs (pTexts numL n) = [⟨#[95]⟩] from by unfold pTexts; rw [if_neg (by omega), if_neg (by omega), if_neg (by omega), if_neg (by omega), if_neg (by omega)]; rfl)
    rw [hk]
    clear hn htab
    go_enter Tryz.func201, Tryz.ntmps201
    go_wp2
    go_ret
    refine ⟨_, rfl, ?_, ?_, Joins.below_alloc2 w _ _⟩
    · rw [HB.out]; exact lit_strs (by simp) rfl rfl (all1 (sz_ok [95] (by simp))) (by simp; unfold maxLen; omega)
    · rw [HB.out]; exact lit_own (by simp) (by simp) rfl rfl (by simp; unfold maxLen; omega)
  · have HB := Lib.hid (show strs (pTexts numL n) = [n.s] from by unfold pTexts; rw [if_pos hk, pr_toList]; rfl)
    rw [hk]
    clear hn htab
    go_enter Tryz.func201, Tryz.ntmps201
    go_wp2
    go_ret
    refine ⟨_, rfl, ?_, ?_, Joins.below_alloc2 w _ _⟩
    · rw [HB.out]; exact lit_strs (by simp) rfl rfl (all1 (by unfold maxLen; omega)) (by simp; unfold maxLen; omega)
    · rw [HB.out]; exact lit_own (by simp) (by simp) rfl rfl (by simp; unfold maxLen; omega)
  · obtain ⟨v0, v1⟩ := pn_int hn hk
    have HB := Lib.hid (show strs (pTexts numL n) = [⟨(numL n.n).toArray⟩] from by unfold pTexts; rw [if_neg (by omega), if_pos hk]; rfl)
    have hl := numL_len24 n.n v0 v1
    have HN := fun (O : Obj) => Lib.hid (iNumText n.n (w.alloc O) (by omega) (tab_below htab (Joins.below_alloc1 w O)))
    rw [hk]
    clear hn htab
    generalize numL n.n = t at *
    go_enter Tryz.func201, Tryz.ntmps201
    go_wp2_with (go_at_call 72; go_loud (refine (HN _).out.mono ?_); rintro e w1 ⟨rfl, hb⟩)
    go_ret
    refine ⟨_, rfl, ?_, ?_, (below_tr (Joins.below_alloc1 w _) hb).trans ((Joins.below_alloc1 w1 _).mono (by have := hb.size; simp at this; omega))⟩
    · rw [HB.out]; exact lit_strs rfl rfl rfl (all1 (sz_ok _ (by omega))) (by simp; unfold maxLen; omega)
    · rw [HB.out]; exact lit_own rfl (by have := hb.size; simp at this; omega) rfl rfl (by simp; unfold maxLen; omega)
  · have HB := Lib.hid (show pTexts numL n = conT n.s.toList n.kids.length from by unfold pTexts; rw [if_neg (by omega), if_neg (by omega), if_pos hk]; rfl)
    have HC := fun W => Lib.hid (iConTexts n.s n.kids.length W h12)
    rw [hk]
    clear hn htab
    go_enter Tryz.func201, Tryz.ntmps201
    go_wp2_with (go_at_call 74; go_loud (refine (HC _).out.mono ?_); rintro e w1 ⟨v1, rfl, r1, o1, hb⟩)
    go_ret
    rw [HB.out]
    exact ⟨_, rfl, r1, own_down o1 (by simp), below_tr (Joins.below_alloc1 w _) hb⟩
  · have HB := Lib.hid (show strs (pTexts numL n) = [⟨#[40]⟩, ⟨#[44, 32]⟩, ⟨#[41]⟩] from by unfold pTexts; rw [if_neg (by omega), if_neg (by omega), if_neg (by omega), if_pos hk]; rfl)
    rw [hk]
    clear hn htab
    go_enter Tryz.func201, Tryz.ntmps201
    go_wp2
    go_ret
    refine ⟨_, rfl, ?_, ?_, Joins.below_alloc2 w _ _⟩
    · rw [HB.out]; exact lit_strs (by simp) rfl rfl (all3 (sz_ok [40] (by simp)) (sz_ok [44, 32] (by simp)) (sz_ok [41] (by simp))) (by simp; unfold maxLen; omega)
    · rw [HB.out]; exact lit_own (by simp) (by simp) rfl rfl (by simp; unfold maxLen; omega)
  · have HB := Lib.hid (show strs (pTexts numL n) = [⟨#[40, 41]⟩] from by unfold pTexts; rw [if_neg (by omega), if_neg (by omega), if_neg (by omega), if_neg (by omega), if_pos hk]; rfl)
    rw [hk]
    clear hn htab
    go_enter Tryz.func201, Tryz.ntmps201
    go_wp2
    go_ret
    refine ⟨_, rfl, ?_, ?_, Joins.below_alloc2 w _ _⟩
    · rw [HB.out]; exact lit_strs (by simp) rfl rfl (all1 (sz_ok [40, 41] (by simp))) (by simp; unfold maxLen; omega)
    · rw [HB.out]; exact lit_own (by simp) (by simp) rfl rfl (by simp; unfold maxLen; omega)
/-- The texts of a '::' and of its pair. -/
theorem iConsTexts (w : World) : Calls Tryz.prog 77 #[] w fun e w' => e = .returned (.tuple #[.slice (some ⟨w.heap.size, 0, none⟩) 2 2, .slice (some ⟨w.heap.size + 1, 0, none⟩) 3 3]) ∧ RowRd 1 StrEl w' (.slice (some ⟨w.heap.size, 0, none⟩) 2 2) (strs [[], []]) ∧ RowRd 1 StrEl w' (.slice (some ⟨w.heap.size + 1, 0, none⟩) 3 3) (strs [[40], [32, 58, 58, 32], [41]]) ∧ Below w.heap.size w w' := by
  have HB := Lib.hid (show strs [[], []] = [⟨#[]⟩, ⟨#[]⟩] from rfl)
  have HB2 := Lib.hid (show strs [[40], [32, 58, 58, 32], [41]] = [⟨#[40]⟩, ⟨#[32, 58, 58, 32]⟩, ⟨#[41]⟩] from rfl)
  go_enter Tryz.func77, Tryz.ntmps77
  go_wp2
  refine bodyPost_ret (v := .tuple #[.slice (some ⟨w.heap.size, 0, none⟩) 2 2, .slice (some ⟨w.heap.size + 1, 0, none⟩) 3 3]) (by simp [results, Tryz.results77, go_sem]) rfl ⟨rfl, ?_, ?_, Joins.below_alloc2 w _ _⟩
  · rw [HB.out]
    exact (lit_strs (by simp) rfl rfl (all2 (sz_ok [] (by simp)) (sz_ok [] (by simp))) (by simp; unfold maxLen; omega)).kept StrEl.st (Kept.alloc _ _)
  · rw [HB2.out]
    exact lit_strs (by simp) rfl rfl (all3 (sz_ok [40] (by simp)) (sz_ok [32, 58, 58, 32] (by simp)) (sz_ok [41] (by simp))) (by simp; unfold maxLen; omega)
end Go.Proofs.YtbehcmogndpkhaaGreatDoor
namespace Go.Proofs.YtbehcmogndpkhaaGreatDoor
set_option linter.unusedVariables false
set_option maxRecDepth 100000
open Go.ChangeShapes Go.WideShapes Go.ChangeAt Go.RowKit

theorem e_pnodeTexts : ∀ args w, (callFunc 201 args).run Tryz.prog w = .ok (.enter 201 args) w := enters_of Tryz.func201 (by kernel_rfl) rfl
/-- A value reads as texts, not in block g. -/
structure TxAt (g : Nat) (W : World) (u : Value) (T : List (List UInt8)) : Prop where
  r : RowRd 1 StrEl W u (strs T)
  ne : u.ownBlock ≠ some g
  one : u.oneCell' = true
theorem TxAt.but {g : Nat} {W W' : World} {u : Value} {T : List (List UInt8)} (h : TxAt g W u T) (hb : ButF [g] W W') : TxAt g W' u T := by
  refine ⟨?_, h.ne, h.one⟩
  obtain ⟨hr, hn, -⟩ := h
  have hr0 := hr
  obtain ⟨p, cap, rfl, hm, hq⟩ := hr.form
  by_cases hz : 0 < (strs T).length
  case neg => exact .inl ⟨List.eq_nil_of_length_eq_zero (by omega), _, _, by rw [show (strs T).length = 0 by omega]⟩
  refine RowRd.mk hm (hr0.cap hz) fun h0 => ?_
  obtain ⟨b, o, rfl, hbw, hc⟩ := hq h0
  have hne : b ∉ [g] := fun hg => hn (by rw [List.mem_singleton.1 hg]; rfl)
  refine ⟨b, o, rfl, Nat.lt_of_lt_of_le hbw hb.size, fun i hi => ?_⟩
  obtain ⟨h1, h2⟩ := hc i hi
  exact ⟨(World.cell?_of_block (a := ⟨b, o + i * 1, none⟩) (hb.block b hbw hne)).trans h1, h2⟩
set_option maxHeartbeats 4000000 in
theorem iMapPn (l : List PN) (v : Value) (w : World) (hR : RowRd 4 PNEl w v l) (hl : l.length ≤ 1048576) (hall : ∀ x ∈ l, isPNB x = true) (htab : Lib.TabIs Tryz.prog w "internal/strconv.uint64pow10" .u64 Lib.pow10Tab) :
    Calls Tryz.prog 200 #[v, .func (.func 201) #[] #[]] w fun e w' => ∃ v' us, e = .returned v' ∧ us.length = l.length ∧ w'.ownsRow w.heap.size 36 1 v' us.length us ∧ (∀ g, v'.ownBlock = some g → ∀ j (h : j < us.length) (h2 : j < l.length), TxAt g w' us[j] (pTexts numL l[j])) ∧ Below w.heap.size w w' := by
  obtain ⟨p, cap, rfl, hm, hR⟩ := hR.form
  unfold maxLen at hm
  obtain ⟨ii, hi, hz0, hz1, hz2⟩ := info_parts info_strs
  obtain ⟨w0, hmk, hown0, hgr0⟩ := run_make_own (P := Tryz.prog) w w.heap.size 65 36 ii (.slice none 0 0) 1 Tryz.underlying65 hi hz0 hz1 .i64 .i64 l.length (by rw [hz2]; omega) (by unfold maxLen; omega) (Nat.le_refl _)
  have hb0 : Below w.heap.size w w0 := (Below.refl _ _).grown hgr0 (Nat.le_refl _) (fun k hk => by simp at hk)
  have HA := Lib.hid hall
  have HT := Lib.hid htab
  clear hall htab
  have e_item := e_pnodeTexts
  go_enter Tryz.func200, Tryz.ntmps200
  go_wp2
  go_loopw [5, 13] (fun nx i wr => ∃ (k : Nat) (us : List Value), i = .int .i64 k ∧ k ≤ l.length ∧ us.length = k ∧ wr.ownsRow w.heap.size 36 1 nx us.length us ∧ Hid (∀ u ∈ us, u.oneCell' = true) ∧ Hid (∀ j (h : j < us.length) (h2 : j < l.length), wr.ownsRow w.heap.size 9 1 us[j] (strs (pTexts numL l[j])).length (sc (strs (pTexts numL l[j])))) ∧ Below w.heap.size w wr ∧ w.heap.size ≤ wr.heap.size) (fun _ i _ => l.length - (intOf i).toNat)
  case atStart => exact ⟨0, [], rfl, Nat.zero_le _, rfl, hown0, Lib.hid (by simp), Lib.hid (by simp), hb0, hb0.size⟩
  case round =>
    obtain ⟨k, us, rfl, hk, hlen, hown, hone, hin, hbel, hsz⟩ := hrel
    by_cases hlt : k < l.length
    · obtain ⟨b, o, rfl, hbw, hc⟩ := hR (by omega)
      have ex := PNEl.st w wr b _ _ (Kept.of_below hbel) hbw (hc k hlt)
      have hxk := HA.out l[k] (List.getElem_mem hlt)
      obtain ⟨x, hxe⟩ : ∃ x, l[k] = x := ⟨_, rfl⟩
      rw [hxe] at ex hxk
      have HX := Lib.hid hxe
      obtain ⟨⟨e0, i0⟩, ⟨e1, i1⟩, ⟨e2, i2⟩, ⟨u3, e3, r3⟩⟩ := ex
      obtain ⟨pk, ck, rfl, -, -⟩ := r3.form
      have hag := Lib.hid (iPnTexts x pk ck (wr.alloc (.cells #[.int .i64 x.kind, .int .i64 x.n, .string x.s, .slice pk x.kids.length ck] 180)) hxk (tab_below HT.out (below_tr hbel (Joins.below_alloc1 wr _))))
      clear hc hR hmk hown0 hgr0 hb0 hxe hxk
      go_wp2_with (first
        | (go_at_call 201; refine hag.out.mono ?_; rintro e w1 ⟨u, rfl, ru, ou, hb⟩; have hb1 := below_tr (Joins.below_alloc1 wr _) hb; have hown1 := own_below hown hb1; have hbel1 := below_tr hbel hb1; have hsz1 := Nat.le_trans hsz hb1.size; obtain ⟨ua, uc, rfl, -, -⟩ := ru.form; have hu1 : Hid (∀ y ∈ [(.slice ua (strs (pTexts numL x)).length uc : Value)], y.oneCell' = true) := Lib.hid (by intro y hy; rw [List.mem_singleton.1 hy]; rfl))
        | (at_builtin; go_loud (refine wpList_append_own _ rfl (.tmp 17) (.tmp 21) 65 rfl w.heap.size 36 ii (.slice none 0 0) 1 24 Tryz.underlying65 hi hz0 hz1 hz2 rfl (by decide) _ us.length us rfl (hown1.alloc _) ⟨w1.heap.size, 0, none⟩ 1 1 [.slice ua (strs (pTexts numL x)).length uc] rfl rfl (new_cells _ _ _ _ rfl) hu1.out (by unfold maxLen; omega) (by omega) (by simp; omega) ?_); intro v' w2 hown' hgrow _))
      have R := own_app hown1 hbel1 (Nat.le_refl _) hsz1 hgrow
      have ou2 := ((own_down ou (B2 := w.heap.size) (by simp; omega)).alloc _).kept hgrow (own_two' (own_down ou (B2 := w.heap.size) (by simp; omega)) hown1 (by decide))
      have hin2 : Hid (∀ j (h : j < (us ++ [Value.slice ua (strs (pTexts numL x)).length uc]).length) (h2 : j < l.length), w2.ownsRow w.heap.size 9 1 (us ++ [Value.slice ua (strs (pTexts numL x)).length uc])[j] (strs (pTexts numL l[j])).length (sc (strs (pTexts numL l[j])))) := Lib.hid (by
        intro j h h2
        by_cases hj : j < us.length
        · have h3 := own_below (hin.out j hj h2) hb1
          rw [List.getElem_append_left hj]
          exact (h3.alloc _).kept hgrow (own_two' h3 hown1 (by decide))
        · have : j = k := by simp at h; omega
          subst this
          rw [List.getElem_append_right (by omega)]
          simp only [HX.out, hlen, Nat.sub_self, List.getElem_singleton]
          exact ou2)
      have hone2 : Hid (∀ y ∈ us ++ [Value.slice ua (strs (pTexts numL x)).length uc], y.oneCell' = true) := Lib.hid fun y hy => (List.mem_append.1 hy).elim (hone.out y) (hu1.out y)
      clear hown hown1 hgrow hbel hbel1 hin ou ou2 ru hone hu1 hag
      go_roundw
      case rel => exact ⟨k + 1, us ++ [Value.slice ua (strs (pTexts numL x)).length uc], by go_num, by omega, by simp; omega, by rw [List.length_append]; exact hown', hone2, hin2, R.1, R.2⟩
      case measure => simp [intOf]; omega
    · obtain rfl : k = l.length := by omega
      clear hR hmk hown0 hgr0 hb0
      go_wp2
      go_ret
      refine ⟨_, us, rfl, hlen, hown, fun g hg j h h2 => ?_, hbel⟩
      have hx := HA.out l[j] (List.getElem_mem h2)
      obtain ⟨t1, t2⟩ := pT_ok hx
      have ho := hin.out j h h2
      refine ⟨own_rds ho (by rw [strs_length]; unfold maxLen; omega) fun y hy => ?_, ?_, hone.out _ (List.getElem_mem h)⟩
      · obtain ⟨t, ht, rfl⟩ := List.mem_map.1 hy
        exact sz_ok t (by have := t2 t ht; omega)
      · rcases own_two' ho hown (by decide) with h3 | h3
        · rw [h3]; simp
        · rw [← hg]; exact h3
end Go.Proofs.YtbehcmogndpkhaaGreatDoor
namespace Go.Proofs.YtbehcmogndpkhaaGreatDoor
set_option linter.unusedVariables false
set_option maxRecDepth 100000
open Go.ChangeShapes Go.WideShapes Go.ChangeAt Go.RowKit

theorem PatV.noSub {q : List PN} (hv : PatV q) {k : Nat} (hk : k < q.length) (hc : isConsB q[k] = true) : ∀ j (hj : j < q.length), isConsB q[j] = true → q[j].kids.head? ≠ some (k : Int) := by
  intro j hj hcj hh
  have hf := hv.cons j hj hcj
  cases hq : q[j].kids with
  | nil => rw [hq] at hh; simp at hh
  | cons y ys =>
    rw [hq] at hh hf
    simp only [List.head?_cons, Option.some.injEq] at hh
    subst hh
    simp only [firstPK, Int.toNat_natCast, List.getElem?_eq_getElem hk] at hf
    simp only [isConsB, Bool.and_eq_true, decide_eq_true_eq] at hc
    omega
/-- A node's texts when the first t nodes have been asked. -/
def patAt (nt : Int → List UInt8) (q : List PN) (t i : Nat) (n : PN) : List (List UInt8) :=
  if consK q t i = true then [[40], [32, 58, 58, 32], [41]] else if isConsB n = true ∧ i < t then [[], []] else pTexts nt n
theorem patAt_0 (nt : Int → List UInt8) (q : List PN) (i : Nat) (n : PN) : patAt nt q 0 i n = pTexts nt n := by simp [patAt, consK]
theorem patAt_no {nt : Int → List UInt8} {q : List PN} {k : Nat} (hk : k < q.length) (hc : isConsB q[k] = false) (i : Nat) (hi : i < q.length) : patAt nt q (k + 1) i q[i] = patAt nt q k i q[i] := by
  unfold patAt
  rw [consK_succ hk, hc]
  simp only [Bool.false_and, Bool.or_false]
  by_cases h : i = k
  · subst h; simp [hc]
  · have : i < k + 1 ↔ i < k := by omega
    simp only [this]
theorem patAt_yes {nt : Int → List UInt8} {q : List PN} {k kn : Nat} (hv : PatV q) (hk : k < q.length) (hc : isConsB q[k] = true) (hkk : q[k].kids = [(kn : Int)]) (i : Nat) (hi : i < q.length) :
    patAt nt q (k + 1) i q[i] = if i = kn then [[40], [32, 58, 58, 32], [41]] else if i = k then [[], []] else patAt nt q k i q[i] := by
  unfold patAt
  rw [consK_succ hk, hc, hkk]
  by_cases h1 : i = kn
  · subst h1; simp
  · have e1 : decide ([(kn : Int)].head? = some (i : Int)) = false := by simp; omega
    rw [e1]
    simp only [Bool.and_false, Bool.or_false, if_neg h1]
    by_cases h2 : i = k
    · subst h2; rw [consK_no (hv.noSub hk hc)]; simp [hc]
    · rw [if_neg h2]
      have : i < k + 1 ↔ i < k := by omega
      simp only [this]
/-- The loop: the first k nodes have been asked. -/
structure LI (q : List PN) (g : Nat) (wb : World) (k : Nat) (us : List Value) (wr : World) : Prop where
  len : us.length = q.length
  cell : ∀ i (h : i < us.length), wr.cell? ⟨g, i, none⟩ = some us[i]
  frz : ∀ i, wr.frozen? ⟨g, i, none⟩ = false
  tx : ∀ i (h : i < us.length) (hq : i < q.length), TxAt g wr us[i] (patAt numL q k i q[i])
  but : ButF [g] wb wr
  lt : g < wr.heap.size
theorem LI.kept {q : List PN} {g k : Nat} {us : List Value} {wb wr w' : World} (h : LI q g wb k us wr) (hb : Below wr.heap.size wr w') : LI q g wb k us w' :=
  ⟨h.len, fun i hi => (hb.cell (p := ⟨g, i, none⟩) h.lt).trans (h.cell i hi), fun i => (hb.frozen (p := ⟨g, i, none⟩) h.lt).trans (h.frz i), fun i hi hq => (h.tx i hi hq).but (ButF.of_below hb), h.but.trans (ButF.of_below hb), Nat.lt_of_lt_of_le h.lt hb.size⟩
theorem LI.no {q : List PN} {g k : Nat} {us : List Value} {wb wr w' : World} (h : LI q g wb k us wr) (hk : k < q.length) (hc : isConsB q[k] = false) (hb : Below wr.heap.size wr w') : LI q g wb (k + 1) us w' := by
  have h' := h.kept hb
  exact ⟨h'.len, h'.cell, h'.frz, fun i hi hq => by rw [patAt_no hk hc]; exact h'.tx i hi hq, h'.but, h'.lt⟩
theorem set_but (g i : Nat) (v : Value) (w : World) : ButF [g] w (w.setCell ⟨g, i, none⟩ v) :=
  ⟨rfl, rfl, rfl, by simp [World.setCell], fun k hk hn => Below.heap_setCell _ _ _ _ (fun e => hn (by rw [e]; simp))⟩
theorem LI.yes {q : List PN} {g k kn : Nat} {us : List Value} {wb wr wA : World} {v1 v2 : Value} (hv : PatV q) (h : LI q g wb k us wr) (hk : k < q.length) (hc : isConsB q[k] = true) (hkk : q[k].kids = [(kn : Int)]) (hkn : kn < q.length) (hne : k ≠ kn)
    (hb : Below wr.heap.size wr wA) (t1 : TxAt g wA v1 [[], []]) (t2 : TxAt g wA v2 [[40], [32, 58, 58, 32], [41]]) :
    LI q g wb (k + 1) ((us.set k v1).set kn v2) ((wA.setCell ⟨g, k, none⟩ v1).setCell ⟨g, kn, none⟩ v2) := by
  have h' := h.kept hb
  have hB := (set_but g k v1 wA).trans (set_but g kn v2 _)
  have hlen := h'.len
  refine ⟨by simp [hlen], fun i hi => ?_, fun i => ?_, fun i hi hq => ?_, h'.but.trans hB, Nat.lt_of_lt_of_le h'.lt hB.size⟩
  · have hi' : i < us.length := by simpa using hi
    by_cases h1 : i = kn
    · subst h1
      rw [List.getElem_set_self]
      exact World.cell?_setCell_same _ _ _ ((cell_off (fun e => hne e)).trans (h'.cell i hi'))
    · rw [List.getElem_set_ne (fun e => h1 e.symm), cell_off (fun e => h1 e.symm)]
      by_cases h2 : i = k
      · subst h2
        rw [List.getElem_set_self]
        exact World.cell?_setCell_same _ _ _ (h'.cell i hi')
      · rw [List.getElem_set_ne (fun e => h2 e.symm), cell_off (fun e => h2 e.symm)]
        exact h'.cell i hi'
  · rw [World.frozen?_setCell, World.frozen?_setCell]; exact h'.frz i
  · have hi' : i < us.length := by simpa using hi
    rw [patAt_yes hv hk hc hkk i hq]
    by_cases h1 : i = kn
    · subst h1
      rw [List.getElem_set_self, if_pos rfl]
      exact t2.but hB
    · rw [List.getElem_set_ne (fun e => h1 e.symm), if_neg h1]
      by_cases h2 : i = k
      · subst h2
        rw [List.getElem_set_self, if_pos rfl]
        exact t1.but hB
      · rw [List.getElem_set_ne (fun e => h2 e.symm), if_neg h2]
        exact (h'.tx i hi' hq).but hB
theorem LI.fin {q : List PN} {g cap : Nat} {us : List Value} {wb wr : World} (h : LI q g wb q.length us wr) (hm : q.length ≤ maxLen) (hcap : q.length ≤ cap) : RowRd 1 (RowEl 1 StrEl) wr (.slice (some ⟨g, 0, none⟩) ((patL numL q q.length).map strs).length cap) ((patL numL q q.length).map strs) := by
  have hl : ((patL numL q q.length).map strs).length = q.length := by rw [List.length_map, patL_len]
  refine RowRd.mk (by omega) (by omega) fun h0 => ⟨g, 0, rfl, h.lt, fun i hi => ?_⟩
  have hq : i < q.length := by omega
  have hu : i < us.length := by rw [h.len]; exact hq
  have hp : (patL numL q q.length)[i]'(by rw [patL_len]; exact hq) = patAt numL q q.length i q[i] := by
    have := patL_get numL q q.length i hq
    rw [List.getElem?_eq_getElem (by rw [patL_len]; exact hq)] at this
    injection this
  rw [Nat.mul_one, Nat.zero_add, List.getElem_map, hp]
  exact ⟨us[i], h.cell i hu, (h.tx i hu hq).r⟩
end Go.Proofs.YtbehcmogndpkhaaGreatDoor
namespace Go.Proofs.YtbehcmogndpkhaaGreatDoor
set_option linter.unusedVariables false
set_option maxRecDepth 100000
open Go.ChangeShapes Go.WideShapes Go.ChangeAt Go.RowKit

theorem pp_lens {q : List PN} (hv : PatV q) : ((patL numL q q.length).map fun P => (P.length : Int) - 1) = lens (q.map PN.kids) := by
  apply List.ext_getElem
  · simp [patL_len, lens]
  · intro i h1 h2
    have hi : i < q.length := by simpa [patL_len] using h1
    obtain ⟨T, hT, hl⟩ := hv.texts numL q.length i hi
    rw [List.getElem?_eq_getElem (by rw [patL_len]; exact hi)] at hT
    injection hT with hT
    simp only [List.getElem_map, lens, hT, hl]
    omega
theorem pp_ok {q : List PN} (hv : PatV q) (h0 : 0 < q.length) (h6 : q.length ≤ 600) : ∃ r P, walkS (vL (patL numL q q.length)) ((patL numL q q.length).map fun P => (P.length : Int) - 1) ((patL numL q q.length).length + 1) [] 0 = (r, P) ∧ P ≠ [] ∧ P.length ≤ 1000000 ∧ P.flatten.length ≤ 1000000 ∧ P.flatten = patU numL q (q.length + 1) false 0 := by
  obtain ⟨P, h1, h2, h3, h4⟩ := weave_all (patL numL q q.length) hv.pre
  have hlen : (q.map PN.kids).length = q.length := by simp
  rw [hlen] at h1 h2
  have h5 : wT (patL numL q q.length) (q.map PN.kids) (q.length + 1) 0 = patU numL q (q.length + 1) false 0 := hv.text numL (q.length + 1) 0 h0 (by omega) fun j hj hc hh => by
    cases hq : q[j].kids with
    | nil => rw [hq] at hh; simp at hh
    | cons y ys =>
      rw [hq] at hh
      simp only [List.head?_cons, Option.some.injEq] at hh
      have := hv.kid hj (k := y) (by rw [hq]; simp)
      omega
  have h7 := pat_size numL numL_len24 hv (q.length + 1) 0 false h0
  have h8' : ∀ a : Nat, endN (q.map PN.kids) a ≤ 600 := fun a => by
    have := pendF_le ((q.map PN.kids).length + 1) (q.map PN.kids) a
    unfold endN; simp only [List.length_map] at this ⊢; omega
  have h8 := h8' 0
  refine ⟨(q.length : Int), P, ?_, h4, by omega, by rw [h2, h5]; omega, h2.trans h5⟩
  rw [pp_lens hv, patL_len]
  exact h1
set_option maxHeartbeats 8000000 in
theorem iPrintPatC (q : List PN) (v : Value) (w : World) (hR : RowRd 4 PNEl w v q) (hz : bPat q ≤ 1048576) (hE : TabE w) :
    Calls Tryz.prog 149 #[.agg #[v]] w fun e w' => e = .returned (.string (prPatRes q)) ∧ Below w.heap.size w w' := by
  have hR0 := hR
  obtain ⟨p, cap, rfl, hm, hR⟩ := hR.form
  have hO := fun W (hK : Kept w W) => Lib.hid (iPatOk q _ W (hR0.kept PNEl.st hK))
  cases hb : patOkB q
  · rw [hb] at hO
    have HB := Lib.hid (show prPatRes q = ⟨#[]⟩ from by rw [prPatRes, hb]; rfl)
    clear hR0 hE hR
    go_enter Tryz.func149, Tryz.ntmps149
    go_wp2_with (go_at_call 182; refine (hO _ (Kept.alloc _ _)).out.mono ?_; rintro e w1 ⟨rfl, hb1⟩; obtain ⟨hcl, hfr⟩ := bcell hb1)
    go_ret
    exact ⟨by rw [HB.out]; rfl, below_tr (Joins.below_alloc1 w _) hb1⟩
  · rw [hb] at hO
    obtain ⟨h1, h2⟩ := patOk_len hb
    have hv := patV_of hb
    obtain ⟨r, P, hP, hne, hPl, hPf, hPt⟩ := pp_ok hv h1 h2
    have HB := Lib.hid (show prPatRes q = ⟨P.flatten.toArray⟩ from by rw [prPatRes, if_pos hb, hPt])
    have hM := fun W (hK : Kept w W) (hT : TabE W) => Lib.hid (iMapPn q _ W (hR0.kept PNEl.st hK) (by omega) (fun x hx => by
      obtain ⟨i, hi, rfl⟩ := List.getElem_of_mem hx
      exact hv.nd i hi) hT.t)
    have hV := fun W v' (hr : RowRd 1 (RowEl 1 StrEl) W v' ((patL numL q q.length).map strs)) => Lib.hid (iWoven (patL numL q q.length) (fun Q hQ => by
      obtain ⟨i, hi, rfl⟩ := List.getElem_of_mem hQ
      have hi' : i < q.length := by rw [patL_len] at hi; exact hi
      obtain ⟨T, hT, hl⟩ := hv.texts numL q.length i hi'
      rw [List.getElem?_eq_getElem hi] at hT
      injection hT with hT
      rw [hT, hl]; omega) (by rw [patL_len]; omega) v' W hr r P hP hne hPl (by omega))
    have HE := Lib.hid hE
    have HV := Lib.hid hv
    have hml : ((patL numL q q.length).map strs).length = q.length := by rw [List.length_map, patL_len]
    clear hP hPt hE hne hPl hPf hv
    obtain ⟨b, o, rfl, hbw, hc⟩ := hR (by omega)
    clear hR
    go_enter Tryz.func149, Tryz.ntmps149
    go_wp2_with (first
      | (go_at_call 182; refine (hO _ (Kept.alloc _ _)).out.mono ?_; rintro e w1 ⟨rfl, hb1⟩; have B1 := below_tr (Joins.below_alloc1 w _) hb1; have z1 := hb1.size; have c1 : w1.cell? ⟨w.heap.size, 0, none⟩ = some (.slice (some ⟨b, o, none⟩) q.length cap) := by (rw [hb1.cell (p := ⟨w.heap.size, 0, none⟩) (by simp)]; simp))
      | (go_at_call 200; refine (hM _ (Kept.of_below B1) (HE.out.below B1)).out.mono ?_; rintro e w2 ⟨v2, us0, rfl, hlen, hown, htx, hb2⟩; obtain ⟨g, gc, hvv, g1, g2, g3, g4, g5⟩ := own_shape hown (by omega); rw [hlen] at hvv; subst hvv; have B2 := below_tr B1 hb2; have c2 : w2.cell? ⟨w.heap.size, 0, none⟩ = some (.slice (some ⟨b, o, none⟩) q.length cap) := (hb2.cell (p := ⟨w.heap.size, 0, none⟩) (by simp at z1; show w.heap.size < _; omega)).trans c1))
    simp only [World.size_alloc] at z1
    have I0 : LI q g w2 0 us0 w2 := ⟨hlen, fun i hi => by rw [g4 i hi, List.getElem?_eq_getElem hi], g5, fun i hi hq => by rw [patAt_0]; exact htx g rfl i hi hq, ButF.refl _ _, g2⟩
    have hgc : q.length ≤ gc := by omega
    clear hM hO htx hown g3 g4 g5 c1 hb2 hb1 B1
    go_loopw [15] (fun i wr => ∃ (k : Nat) (us : List Value), i = .int .i64 k ∧ k ≤ q.length ∧ LI q g w2 k us wr) (fun i _ => q.length - (intOf i).toNat)
    case atStart => exact ⟨0, us0, rfl, Nat.zero_le _, I0⟩
    case round =>
      obtain ⟨k, us, rfl, hk, hI⟩ := hrel
      clear I0
      have hbel : Below w.heap.size w wr := B2.trans (hI.but.bel (B := w.heap.size) (fun j hj => by rw [List.mem_singleton.1 hj]; omega) B2.size)
      have hsz : w2.heap.size ≤ wr.heap.size := hI.but.size
      by_cases hlt : k < q.length
      · have ex := hc k hlt
        have hn := HV.out.nd k hlt
        have hkid := fun kk (h : kk ∈ q[k].kids) => HV.out.kid hlt h
        obtain ⟨x, hxe⟩ : ∃ x, q[k] = x := ⟨_, rfl⟩
        rw [hxe] at ex hn hkid
        obtain ⟨⟨e0, i0⟩, ⟨e1, i1⟩, ⟨e2, i2⟩, ⟨u3, e3, r3⟩⟩ := ex
        obtain ⟨pk, ck, rfl, hmk, hkf⟩ := r3.form
        have K := Kept.of_below hbel
        replace e0 := (K.cell _ _ hbw).trans e0
        replace e1 := (K.cell _ _ hbw).trans e1
        replace e2 := (K.cell _ _ hbw).trans e2
        replace e3 := (K.cell _ _ hbw).trans e3
        have hcp := fun W => Lib.hid (iConsPat x.kind x.n x.s (.slice pk x.kids.length ck) W i2)
        have HX := Lib.hid hxe
        have HI := Lib.hid hI
        have hk0 : (0 : Int) ≤ k := by omega
        have hk1 : (k : Int) < q.length := by omega
        cases hcx : isConsB x
        · have hcx' : (decide (x.kind = 4) && decide (x.s.toList = [58, 58])) = false := hcx
          have HN := fun w' (hb : Below wr.heap.size wr w') => Lib.hid (hI.no hlt (by rw [hxe]; exact hcx) hb)
          rw [hcx'] at hcp
          clear hI hxe hcx hcx' hn hkid hkf r3 hc hbel K
          go_wp2_with (go_at_call 202; refine (hcp _).out.mono ?_; rintro e w3 ⟨rfl, hb3⟩)
          go_roundw
          case rel => exact ⟨k + 1, us, by go_num, by omega, (HN _ (below_tr (Joins.below_alloc1 wr _) hb3)).out⟩
          case measure => simp [intOf]; omega
        · have hcx' : (decide (x.kind = 4) && decide (x.s.toList = [58, 58])) = true := hcx
          rw [hcx'] at hcp
          have hl := isPN_cons _ hn hcx
          obtain ⟨kid, hkk⟩ := List.length_eq_one_iff.1 hl
          obtain ⟨k1, k2⟩ := hkid kid (by rw [hkk]; simp)
          obtain ⟨kn, rfl⟩ : ∃ kn : Nat, kid = kn := ⟨kid.toNat, by omega⟩
          have hkn : kn < q.length := by omega
          obtain ⟨bk, ok, rfl, hbk, hck⟩ := hkf (by omega)
          have m0 := (hck 0 (by omega)).1
          simp only [hkk, List.getElem_cons_zero, Nat.zero_mul, Nat.add_zero] at m0
          replace m0 := (K.cell _ _ hbk).trans m0
          have hu1 : k < us.length := by rw [hI.len]; exact hlt
          have hu2 : kn < us.length := by rw [hI.len]; exact hkn
          obtain ⟨pa, ca, hua, -, -⟩ := (hI.tx k hu1 hlt).r.form
          obtain ⟨pb, cb, hub, -, -⟩ := (hI.tx kn hu2 hkn).r.form
          have qa := hI.cell k hu1
          have qb := hI.cell kn hu2
          rw [hua] at qa
          rw [hub] at qb
          have fa := hI.frz k
          have fb := hI.frz kn
          have hgl := hI.lt
          have HY := fun wA v1 v2 (hb : Below wr.heap.size wr wA) t1 t2 => Lib.hid (hI.yes (v1 := v1) (v2 := v2) HV.out hlt (by rw [hxe]; exact hcx) (by rw [hxe]; exact hkk) hkn (by omega) hb t1 t2)
          generalize (strs (patAt numL q k k q[k])).length = la at *
          generalize (strs (patAt numL q k kn q[kn])).length = lb at *
          rw [hl] at e3 hcp
          have hn0 : (0 : Int) ≤ kn := by omega
          have hn1 : (kn : Int) < q.length := by omega
          have hCT := fun W => Lib.hid (iConsTexts W)
          have hbg : bk ≠ g := by omega
          clear hI hxe hcx hcx' hn hkid hkf r3 hc hbel K hua hub hck hkk hl
          go_wp2_with (go_at_call 202; refine (hcp _).out.mono ?_; rintro e w3 ⟨rfl, hb3⟩)
          have B3 : Below wr.heap.size wr w3 := below_tr (Joins.below_alloc1 wr _) hb3
          have z3 := hb3.size
          simp only [World.size_alloc] at z3
          have c3 : w3.cell? ⟨wr.heap.size, 3, none⟩ = some (.slice (some ⟨bk, ok, none⟩) 1 ck) := by rw [hb3.cell (p := ⟨wr.heap.size, 3, none⟩) (by simp)]; simp
          have m3 : w3.cell? ⟨bk, ok, none⟩ = some (.int .i64 kn) := (B3.cell (p := ⟨bk, ok, none⟩) (by show bk < _; have := B2.size; omega)).trans m0
          have q3 : w3.cell? ⟨g, k, none⟩ = some (.slice pa la ca) := (B3.cell (p := ⟨g, k, none⟩) hgl).trans qa
          have p3 : w3.cell? ⟨g, kn, none⟩ = some (.slice pb lb cb) := (B3.cell (p := ⟨g, kn, none⟩) hgl).trans qb
          have f3 : w3.frozen? ⟨g, k, none⟩ = false := (B3.frozen (p := ⟨g, k, none⟩) hgl).trans fa
          have h3 : w3.frozen? ⟨g, kn, none⟩ = false := (B3.frozen (p := ⟨g, kn, none⟩) hgl).trans fb
          have KS : ∀ W, ButF [g] w3 W → W.cell? ⟨wr.heap.size, 3, none⟩ = some (.slice (some ⟨bk, ok, none⟩) 1 ck) ∧ W.cell? ⟨bk, ok, none⟩ = some (.int .i64 kn) := fun W h =>
            ⟨(World.cell?_of_block (a := ⟨wr.heap.size, 3, none⟩) (h.block wr.heap.size (by omega) (by simp; omega))).trans c3, (World.cell?_of_block (a := ⟨bk, ok, none⟩) (h.block bk (by have := B2.size; omega) (by simpa using hbg))).trans m3⟩
          clear e0 e1 e2 e3 m0 qa qb fa fb hb3 hcp c2
          go_region_held3 (fun W => W.cell? ⟨wr.heap.size, 3, none⟩ = some (.slice (some ⟨bk, ok, none⟩) 1 ck) ∧ W.cell? ⟨bk, ok, none⟩ = some (.int .i64 kn))
            (first | exact KS _ (ButF.refl _ _) | exact KS _ (ButF.of_below (Below.refl _ _).drew) | exact KS _ (ButF.of_below ((Below.refl _ _).drew.trans hbA)) | exact KS _ ((ButF.of_below ((Below.refl _ _).drew.trans hbA)).trans (set_but _ _ _ _)) | exact KS _ (((ButF.of_below ((Below.refl _ _).drew.trans hbA)).trans (set_but _ _ _ _)).trans (set_but _ _ _ _)))
            ((go_at_call 77; refine (hCT _).out.mono ?_; rintro e wA ⟨rfl, r1, r2, hbA⟩; have qA : wA.cell? ⟨g, k, none⟩ = some (.slice pa la ca) := (hbA.cell (p := ⟨g, k, none⟩) (by show g < w3.heap.size; omega)).trans q3; have fA : wA.frozen? ⟨g, k, none⟩ = false := (hbA.frozen (p := ⟨g, k, none⟩) (by show g < w3.heap.size; omega)).trans f3; have pA : wA.cell? ⟨g, kn, none⟩ = some (.slice pb lb cb) := (hbA.cell (p := ⟨g, kn, none⟩) (by show g < w3.heap.size; omega)).trans p3; have hA : wA.frozen? ⟨g, kn, none⟩ = false := (hbA.frozen (p := ⟨g, kn, none⟩) (by show g < w3.heap.size; omega)).trans h3; have pB : ∀ u, (wA.setCell ⟨g, k, none⟩ u).cell? ⟨g, kn, none⟩ = some (.slice pb lb cb) := fun u => (cell_off (by omega)).trans pA))
          have hg3 : g < w3.drew.heap.size := by show g < w3.heap.size; omega
          have T1 : TxAt g wA (.slice (some ⟨w3.drew.heap.size, 0, none⟩) 2 2) [[], []] := ⟨r1, fun e => by injection e with e; have e' : w3.drew.heap.size = g := e; omega, rfl⟩
          have T2 : TxAt g wA (.slice (some ⟨w3.drew.heap.size + 1, 0, none⟩) 3 3) [[40], [32, 58, 58, 32], [41]] := ⟨r2, fun e => by injection e with e; have e' : w3.drew.heap.size + 1 = g := e; omega, rfl⟩
          have HZ := HY wA _ _ (below_tr B3 ((Below.refl _ _).drew.trans hbA)) T1 T2
          clear HY T1 T2 r1 r2 KS hCT qA fA pA hA pB q3 p3 f3 h3 c3 m3
          go_wp2_with fail
          go_roundw
          case rel => exact ⟨k + 1, _, by go_num, by omega, HZ.out⟩
          case measure => simp [intOf]; omega
      · obtain rfl : k = q.length := by omega
        have HF := Lib.hid (hI.fin (by omega) hgc)
        rw [hml] at HF
        clear hI hc
        go_wp2_with (go_at_call 33; refine (hV _ _ HF.out).out.mono ?_; rintro e w4 ⟨rfl, hb4⟩)
        go_ret
        exact ⟨by rw [HB.out]; rfl, below_tr hbel hb4⟩
end Go.Proofs.YtbehcmogndpkhaaGreatDoor
namespace Go.Proofs.YtbehcmogndpkhaaGreatDoor
set_option linter.unusedVariables false
set_option maxRecDepth 100000
open Go.ChangeShapes Go.WideShapes Go.ChangeAt Go.RowKit

theorem hex_slice (u : Int) (v : Nat) (h : 0 ≤ u ∧ u < 16) (hv : u = v) (W : World) :
    (Instr.slice 9 (.string ⟨#[48, 49, 50, 51, 52, 53, 54, 55, 56, 57, 97, 98, 99, 100, 101, 102]⟩) (some (.int .u8 u)) (some (.int .u8 (IntKind.u8.wrap (u + 1)))) none).run Tryz.prog W = .ok (.string ⟨#[hexB v]⟩) W := by
  subst hv
  have : v = 0 ∨ v = 1 ∨ v = 2 ∨ v = 3 ∨ v = 4 ∨ v = 5 ∨ v = 6 ∨ v = 7 ∨ v = 8 ∨ v = 9 ∨ v = 10 ∨ v = 11 ∨ v = 12 ∨ v = 13 ∨ v = 14 ∨ v = 15 := by omega
  rcases this with rfl | rfl | rfl | rfl | rfl | rfl | rfl | rfl | rfl | rfl | rfl | rfl | rfl | rfl | rfl | rfl <;> rfl

theorem quotedByte (c : UInt8) (w : World) :
    Calls Tryz.prog 148 #[.int .u8 (c.toNat : Int)] w fun e w' => e = .returned (.string ⟨(qb c).toArray⟩) ∧ Below w.heap.size w w' := by
  have hcb := byte_bd' c
  have hcv := own_string (l := [c]) (World.ownsRow_lit w #[.int .u8 (c.toNat : Int)] 1 (Nat.le_refl _) (by decide) rfl) rfl (by decide) rfl
  obtain ⟨g, cap, hg, hcv⟩ := hcv
  simp only [Value.slice.injEq, Option.some.injEq, Addr.mk.injEq] at hg
  obtain ⟨⟨rfl, _⟩, _, rfl⟩ := hg
  by_cases h10 : (c.toNat : Int) = 10
  · have H10 := Lib.hid h10
    have t1 : ((c.toNat : Int) == 10) = true := by simpa using h10
    clear h10
    go_enter Tryz.func148, Tryz.ntmps148
    go_wp2
    go_ret
    exact ⟨by rw [qb_ten _ H10.out]; rfl, (Below.refl _ _).alloc (Nat.le_refl _) _⟩
  have t1 : ((c.toNat : Int) == 10) = false := by simpa using h10
  by_cases h34 : (c.toNat : Int) = 34 ∨ (c.toNat : Int) = 92
  · have H34 := Lib.hid h34
    by_cases h34a : (c.toNat : Int) = 34
    all_goals
      first
      | (have t2 : ((c.toNat : Int) == 34) = true := by simpa using h34a
         clear h34a h34)
      | (have t2 : ((c.toNat : Int) == 92) = true := by simpa [h34a] using h34
         have t3 : ((c.toNat : Int) == 34) = false := by simpa using h34a
         clear h34a h34)
      have H10 := Lib.hid h10
      clear h10
      go_enter Tryz.func148, Tryz.ntmps148
      go_wp2_with (go_at_call 27; go_loud (refine (joined (w.heap.size + 1) 0 2 [⟨#[92]⟩, ⟨#[c]⟩] ((w.alloc (.cells #[.int .u8 (c.toNat : Int)] 5)).alloc (.cells #[.string ⟨#[92]⟩, .string ⟨#[c]⟩] 9)) (strs_at _ _ _ _ _ (by simp) rfl) (by simp) (by simp) (by simp) (by simp [cat])).mono ?_); rintro e w1 ⟨rfl, hb⟩)
      go_ret
      refine ⟨by rw [qb_esc _ H10.out H34.out]; rfl, ?_⟩
      exact (((Below.refl _ _).alloc (Nat.le_refl _) _).alloc (by simp) _).trans (hb.mono (by simp; omega))
  · have n34 : ((c.toNat : Int) == 34) = false := by simpa using fun h => h34 (.inl h)
    have n92 : ((c.toNat : Int) == 92) = false := by simpa using fun h => h34 (.inr h)
    have H34 := Lib.hid h34
    have H10 := Lib.hid h10
    clear h34 h10
    by_cases h32 : 32 ≤ (c.toNat : Int) ∧ (c.toNat : Int) ≤ 126
    · have H32 := Lib.hid h32
      obtain ⟨h32a, h32b⟩ := h32
      go_enter Tryz.func148, Tryz.ntmps148
      go_wp2
      go_ret
      exact ⟨by rw [qb_self _ H10.out H34.out H32.out]; rfl, (Below.refl _ _).alloc (Nat.le_refl _) _⟩
    · have H32 := Lib.hid h32
      have hx1 := hex_slice ((c.toNat : Int) / 16) (c.toNat / 16) (by omega) (by omega)
      have hx2 := hex_slice ((c.toNat : Int) % 16) (c.toNat % 16) (by omega) (by omega)
      by_cases h33 : 32 ≤ (c.toNat : Int)
      all_goals
        first | (have n126 : 126 < (c.toNat : Int) := by omega
                 clear h32) | clear h32
        go_enter Tryz.func148, Tryz.ntmps148
        go_wp2
        go_region_with ((go_at_call 27; refine (joined (w.heap.size + 1) 0 3 [⟨#[92, 120]⟩, ⟨#[hexB (c.toNat / 16)]⟩, ⟨#[hexB (c.toNat % 16)]⟩] (((w.alloc (.cells #[.int .u8 (c.toNat : Int)] 5)).drew).alloc (.cells #[.string ⟨#[92, 120]⟩, .string ⟨#[hexB (c.toNat / 16)]⟩, .string ⟨#[hexB (c.toNat % 16)]⟩] 9)) (strs_at _ _ _ _ _ (by simp) rfl) (by simp) (by simp) (by simp) (by simp [cat])).mono ?_; rintro e w1 ⟨rfl, hb⟩))
        go_wp2
        go_ret
        refine ⟨by rw [qb_hex _ H10.out H34.out H32.out]; rfl, ?_⟩
        exact ((((Below.refl _ _).alloc (Nat.le_refl _) _).drew).alloc (by simp) _).trans (hb.mono (by simp; omega))
end Go.Proofs.YtbehcmogndpkhaaGreatDoor
namespace Go.Proofs.YtbehcmogndpkhaaGreatDoor
set_option linter.unusedVariables false
set_option maxRecDepth 100000
open Go.ChangeShapes Go.WideShapes Go.ChangeAt Go.RowKit

theorem info_str : (Tryz.prog.info? 9).map (fun i => (i.zero, i.size, i.bytes)) = some (some (.string ⟨#[]⟩), 1, 16) := by kernel_rfl
def piece (c : UInt8) : ByteArray := ⟨(qb c).toArray⟩
def pieces (s : ByteArray) (k : Nat) : List ByteArray := ⟨#[34]⟩ :: (s.data.toList.take k).map piece
theorem pieces_length (s : ByteArray) (k : Nat) (hk : k ≤ s.size) : (pieces s k).length = k + 1 := by simp [pieces]; omega
theorem pieces_succ (s : ByteArray) (k : Nat) (h : k < s.size) : pieces s (k + 1) = pieces s k ++ [piece s[k]] := by
  unfold pieces
  have ht : s.data.toList.take (k + 1) = s.data.toList.take k ++ [s[k]] := by
    rw [List.take_succ_eq_append_getElem (by simpa using h)]; rfl
  rw [ht]; simp
theorem pieces_end (s : ByteArray) : cat (pieces s s.size ++ [⟨#[34]⟩]) = quoteL s.data.toList := by
  have h : s.data.toList.take s.size = s.data.toList := List.take_of_length_le (by simp)
  unfold cat pieces quoteL
  rw [h]
  simp only [List.map_append, List.map_cons, List.map_map, List.map_nil, List.flatten_append, List.flatten_cons, List.flatten_nil, List.flatMap_def]
  simp [piece, Function.comp_def]
theorem cat_length (s : ByteArray) (h : s.size ≤ 1048576) : (cat (pieces s s.size ++ [⟨#[34]⟩])).length ≤ 140737488355328 := by
  rw [pieces_end]; unfold quoteL
  have := flat_length s.data.toList
  simp only [List.length_cons, List.length_append, List.length_nil]
  have hs : s.data.toList.length = s.size := rfl
  omega
set_option maxRecDepth 100000 in
set_option maxHeartbeats 1000000 in
theorem iQuote (s : ByteArray) (w : World) (hs : s.size ≤ 1048576) :
    Calls Tryz.prog 73 #[.string s] w fun e w' => e = .returned (.string ⟨(quoteL s.data.toList).toArray⟩) ∧ Below w.heap.size w w' := by
  obtain ⟨i0, hi, hz0, hz1, hz2⟩ := info_parts info_str
  go_enter Tryz.func73, Tryz.ntmps73
  go_wp2
  go_loopw [3, 4] (fun v i wr => ∃ k : Nat, k ≤ s.size ∧ i = .int .i64 k ∧ wr.ownsRow w.heap.size 9 1 v (pieces s k).length (sc (pieces s k)) ∧ Below w.heap.size w wr ∧ w.heap.size ≤ wr.heap.size)
    (fun _ i _ => s.size - (intOf i).toNat)
  case atStart => 
    refine ⟨0, Nat.zero_le _, rfl, ?_, (Below.refl _ _).alloc (Nat.le_refl _) _, by simp⟩
    exact World.ownsRow_lit w #[.string ⟨#[34]⟩] 1 (Nat.le_refl _) (by decide) rfl
  case round =>
    obtain ⟨k, hk, rfl, hown, hbel, hBs⟩ := hrel
    have hql := pieces_length s k hk
    have HL := Lib.hid hql
    have hqb : (pieces s k).length ≤ 1048577 := by omega
    clear hql
    by_cases hlt : k < s.size
    · have hq := Lib.hid (pieces_succ s k hlt)
      go_wp2_with (first
        | (go_at_call 148; refine (quotedByte _ _).mono ?_; rintro e w1 ⟨rfl, hb⟩; have hown1 := own_below hown hb; have hbel1 := hbel.trans (hb.mono hBs); have hBs1 := Nat.le_trans hBs hb.size)
        | (at_builtin; refine wpList_append_own _ rfl (.tmp 12) (.tmp 17) 36 rfl w.heap.size 9 i0 (.string ⟨#[]⟩) 1 16 Tryz.underlying36 hi hz0 hz1 hz2 rfl (by decide) _ (pieces s k).length (sc (pieces s k)) rfl (hown1.alloc _) ⟨w1.heap.size, 0, none⟩ 1 1 [.string (piece s[k])] rfl rfl (new_cells _ _ _ _ rfl) (sc_one [piece s[k]]) (by unfold maxLen; omega) (by omega) (by simp; omega) ?_; intro v' w2 hown' hgrow _))
      have R := own_app hown1 hbel1 (Nat.le_refl _) hBs1 hgrow
      have O := own_strs rfl rfl (l' := [piece s[k]]) rfl rfl hown'
      clear hown hown1 hown' hgrow hbel hbel1
      go_roundw
      case rel => exact ⟨k + 1, by omega, by go_num, by rw [hq.out]; exact O, R.1, R.2⟩
      case measure => simp [intOf]; omega
    · obtain rfl : k = s.size := by omega
      have hq := Lib.hid (pieces_end s)
      have hcl := Lib.hid (cat_length s hs)
      go_wp2_with (first
        | (at_builtin; refine wpList_append_own _ rfl (.tmp 19) (.tmp 20) 36 rfl w.heap.size 9 i0 (.string ⟨#[]⟩) 1 16 Tryz.underlying36 hi hz0 hz1 hz2 rfl (by decide) _ (pieces s s.size).length (sc (pieces s s.size)) rfl (hown.alloc _) ⟨wr.heap.size, 0, none⟩ 1 1 [.string ⟨#[34]⟩] rfl rfl (new_cells _ _ _ _ rfl) (sc_one [⟨#[34]⟩]) (by unfold maxLen; omega) (by omega) (by simp; omega) ?_; intro v' w1 hown' hgrow _; have R := own_app hown hbel (Nat.le_refl _) hBs hgrow; have O := own_strs rfl rfl (l' := [⟨#[34]⟩]) rfl rfl hown'; obtain ⟨g, cap, rfl, hg1, hg2, hg3, hg4, _⟩ := own_shape O (by simp))
        | fail)
      have hcell : ∀ (j : Nat) x, (pieces s s.size ++ [⟨#[34]⟩])[j]? = some x → w1.cell? ⟨g, 0 + j, none⟩ = some (.string x) := fun j x hj => by
        rw [Nat.zero_add, hg4 j (List.getElem?_eq_some_iff.1 hj).1, sc, List.getElem?_map, hj]; rfl
      have J := joined g 0 cap _ w1 hcell hg2 (by simp only [List.length_append, List.length_singleton]; omega) hg3 hcl.out
      simp only [List.length_append, List.length_cons, List.length_nil, Nat.zero_add] at J
      refine J.mono ?_
      rintro e w2 ⟨rfl, hb⟩
      clear hcell hg4
      go_wp2
      go_ret
      exact ⟨by rw [← hq.out]; rfl, R.1.trans (hb.mono R.2)⟩
end Go.Proofs.YtbehcmogndpkhaaGreatDoor
namespace Go.Proofs.YtbehcmogndpkhaaGreatDoor
set_option linter.unusedVariables false
set_option maxRecDepth 100000
open Go.ChangeShapes Go.WideShapes Go.ChangeAt Go.RowKit

/-- The texts of a match. -/
def matchT (l : List (List PN)) : List (List UInt8) := ([40, 109, 97, 116, 99, 104, 32] :: armsT pTxt [32, 119, 105, 116, 104, 32] l) ++ [[32, 101, 110, 100, 41]]
def armsK (l : List (List PN)) (k : Nat) : List (List UInt8) := [40, 109, 97, 116, 99, 104, 32] :: (armsT pTxt [32, 119, 105, 116, 104, 32] l).take k
def befT (k : Nat) : List UInt8 := if k = 0 then [32, 119, 105, 116, 104, 32] else [32, 124, 32]
theorem armsK_s (l : List (List PN)) (k : Nat) (h : k < l.length) : armsK l (k + 1) = armsK l k ++ [befT k ++ pTxt l[k] ++ [32, 45, 62, 32]] := by
  unfold armsK befT
  rw [List.take_add_one, arms_get _ _ _ _ h]
  simp
theorem armsK_len (l : List (List PN)) (k : Nat) (h : k ≤ l.length) : (armsK l k).length = k + 1 := by
  unfold armsK
  simp [arms_len]; omega
theorem armsK_all (l : List (List PN)) : armsK l l.length ++ [[32, 101, 110, 100, 41]] = matchT l := by
  unfold armsK matchT
  rw [List.take_of_length_le (by rw [arms_len]; omega)]
theorem matchT_sz {l : List (List PN)} (h : ∀ q ∈ l, patOkB q = true) : ∀ t ∈ matchT l, t.length ≤ 5000000 := by
  intro t ht
  unfold matchT at ht
  simp only [List.mem_append, List.mem_cons, List.not_mem_nil, or_false] at ht
  rcases ht with (rfl | ht) | rfl
  · simp
  · exact arms_sz (fun q hq => pTxt_len (h q hq)) _ (by simp) t ht
  · simp
theorem sz_ok5 (t : List UInt8) (h : t.length ≤ 5000000) : (⟨t.toArray⟩ : ByteArray).size ≤ maxLen := by
  show t.toArray.size ≤ maxLen
  unfold maxLen; simp; omega
theorem strs_app (a b : List (List UInt8)) : strs (a ++ b) = strs a ++ strs b := by simp [strs]
theorem prPat_ok {q : List PN} (h : patOkB q = true) : prPatRes q = ⟨(pTxt q).toArray⟩ := by rw [prPatRes, if_pos h]; rfl
set_option maxHeartbeats 8000000 in
theorem iMatchTexts (l : List (List PN)) (v : Value) (w : World) (hR : RowRd 1 PatEl w v l) (hz : ∀ q ∈ l, bPat q ≤ 1048576) (hok : ∀ q ∈ l, patOkB q = true) (hl : l.length ≤ 1048576) (hE : TabE w) :
    Calls Tryz.prog 75 #[v] w (TxPost w (matchT l)) := by
  have hM := Lib.hid (matchT_sz hok)
  obtain ⟨p, cap, rfl, hm, hq⟩ := hR.form
  obtain ⟨ii, hi, hz0, hz1, hz2⟩ := info_parts info_str'
  have HE := Lib.hid hE
  have HO := Lib.hid hok
  have HZ := Lib.hid hz
  clear hR hE hok hz
  go_enter Tryz.func75, Tryz.ntmps75
  go_wp2
  go_loopw [3, 4, 10] (fun vt vb i wr => ∃ k : Nat, i = .int .i64 k ∧ k ≤ l.length ∧ vb = .string ⟨(befT k).toArray⟩ ∧ wr.ownsRow w.heap.size 9 1 vt (strs (armsK l k)).length (sc (strs (armsK l k))) ∧ Below w.heap.size w wr ∧ w.heap.size ≤ wr.heap.size) (fun _ _ i _ => l.length - (intOf i).toNat)
  case atStart =>
    refine ⟨0, rfl, Nat.zero_le _, rfl, ?_, (Below.refl _ _).alloc (Nat.le_refl _) _, by simp⟩
    exact World.ownsRow_lit w #[.string ⟨#[40, 109, 97, 116, 99, 104, 32]⟩] 1 (Nat.le_refl _) (by decide) rfl
  case round =>
    obtain ⟨k, rfl, hk, rfl, hown, hbel, hBs⟩ := hrel
    have hql : (strs (armsK l k)).length ≤ 1048577 := by rw [strs_length, armsK_len l k hk]; omega
    by_cases hlt : k < l.length
    · obtain ⟨b, o, rfl, hbw, hc⟩ := hq (by omega)
      obtain ⟨vq, eq, rq⟩ := hc k hlt
      have hS := Lib.hid (armsK_s l k hlt)
      have hok := HO.out l[k] (List.getElem_mem hlt)
      have hpl := pTxt_len hok
      have HP := fun W (hK : Kept w W) (hT : TabE W) => Lib.hid (iPrintPatC l[k] vq W (rq.kept PNEl.st hK) (HZ.out l[k] (List.getElem_mem hlt)) hT)
      rw [prPat_ok hok] at HP
      have K1 := Kept.of_below hbel
      replace eq := (K1.cell _ _ hbw).trans eq
      rw [Nat.mul_one] at eq
      obtain ⟨pv, cv, rfl, -, -⟩ := rq.form
      have hbl : (befT k).length ≤ 6 := by unfold befT; split <;> simp
      clear hc hq hok rq
      generalize pTxt l[k] = T at *
      generalize l[k].length = lq at *
      generalize hB : befT k = Bf at *
      have hcl : (cat [⟨Bf.toArray⟩, ⟨T.toArray⟩, ⟨#[32, 45, 62, 32]⟩]).length ≤ 20000 := by simp [cat]; omega
      have HC := Lib.hid (show cat [⟨Bf.toArray⟩, ⟨T.toArray⟩, ⟨#[32, 45, 62, 32]⟩] = Bf ++ T ++ [32, 45, 62, 32] from by simp [cat])
      have HJ := Lib.hid fun (W : World) (n : Nat) (hn : n = W.heap.size) => joined n 0 3 [⟨Bf.toArray⟩, ⟨T.toArray⟩, ⟨#[32, 45, 62, 32]⟩] (W.alloc (.cells #[.string ⟨Bf.toArray⟩, .string ⟨T.toArray⟩, .string ⟨#[32, 45, 62, 32]⟩] 9)) (strs_at _ _ _ _ _ hn rfl) (by simp [hn]) (by simp) (by simp) (by omega)
      generalize cat [⟨Bf.toArray⟩, ⟨T.toArray⟩, ⟨#[32, 45, 62, 32]⟩] = C at *
      have HB := Lib.hid hB
      clear hB
      go_wp2_with (first
        | (go_at_call 149; go_loud (refine (HP _ (K1.trans (Kept.alloc _ _)) (HE.out.below (below_tr hbel (Joins.below_alloc1 wr _)))).out.mono ?_); rintro e w1 ⟨rfl, hb1⟩; have hbb1 := below_tr (Joins.below_alloc1 wr _) hb1)
        | (go_at_call 27; go_loud (refine (HJ.out _ _ (by simp)).mono ?_); rintro e w2 ⟨rfl, hb2⟩; have hbb2 := below_tr hbb1 (below_tr (Joins.below_alloc1 w1 _) hb2); have hown1 := own_below hown hbb2; have hbel1 := below_tr hbel hbb2; have hsz1 := Nat.le_trans hBs hbb2.size)
        | (at_builtin; go_loud (refine wpList_append_own _ rfl (.tmp 14) (.tmp 20) 36 rfl w.heap.size 9 ii (.string ⟨#[]⟩) 1 16 Tryz.underlying36 hi hz0 hz1 hz2 rfl (by decide) _ (strs (armsK l k)).length (sc (strs (armsK l k))) rfl (hown1.alloc _) ⟨w2.heap.size, 0, none⟩ 1 1 [.string ⟨C.toArray⟩] rfl rfl (new_cells _ _ _ _ rfl) (sc_one [⟨C.toArray⟩]) (by unfold maxLen; omega) (by omega) (by simp; omega) ?_); intro v' w3 hown' hgrow _))
      have R := own_app hown1 hbel1 (Nat.le_refl _) hsz1 hgrow
      have O := own_strs rfl rfl (l' := [⟨C.toArray⟩]) rfl rfl hown'
      have HF := Lib.hid (show strs (armsK l (k + 1)) = strs (armsK l k) ++ [⟨C.toArray⟩] from by rw [hS.out, strs_app, HC.out]; rfl)
      clear hown hown1 hown' hgrow hbel hbel1
      go_roundw
      case rel => exact ⟨k + 1, by go_num, by omega, rfl, by rw [HF.out]; exact O, R.1, R.2⟩
      case measure => simp [intOf]; omega
    · obtain rfl : k = l.length := by omega
      clear hq
      go_wp2_with (at_builtin; go_loud (refine wpList_append_own _ rfl (.tmp 23) (.tmp 24) 36 rfl w.heap.size 9 ii (.string ⟨#[]⟩) 1 16 Tryz.underlying36 hi hz0 hz1 hz2 rfl (by decide) _ (strs (armsK l l.length)).length (sc (strs (armsK l l.length))) rfl (hown.alloc _) ⟨wr.heap.size, 0, none⟩ 1 1 [.string ⟨#[32, 101, 110, 100, 41]⟩] rfl rfl (new_cells _ _ _ _ rfl) (sc_one [⟨#[32, 101, 110, 100, 41]⟩]) (by unfold maxLen; omega) (by omega) (by simp; omega) ?_); intro v' w3 hown' hgrow _)
      have R := own_app hown hbel (Nat.le_refl _) hBs hgrow
      have O := own_strs rfl rfl (l' := [⟨#[32, 101, 110, 100, 41]⟩]) rfl rfl hown'
      have HF := Lib.hid (show strs (matchT l) = strs (armsK l l.length) ++ [⟨#[32, 101, 110, 100, 41]⟩] from by rw [← armsK_all, strs_app]; rfl)
      rw [← HF.out] at O
      clear hown hown' hgrow hbel
      go_ret
      refine ⟨_, rfl, own_rds O (by rw [HF.out, List.length_append]; unfold maxLen; simp only [List.length_cons, List.length_nil]; omega) fun y hy => ?_, O, R.1⟩
      obtain ⟨t, ht, rfl⟩ := List.mem_map.1 hy
      exact sz_ok5 t (hM.out t ht)
end Go.Proofs.YtbehcmogndpkhaaGreatDoor
