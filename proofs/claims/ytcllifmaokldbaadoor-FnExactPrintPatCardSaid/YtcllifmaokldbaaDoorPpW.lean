/- The program's rows of texts: mapped at a pattern's nodes. -/
import Derived.Test.YtcllifmaokldbaaDoorPpI
namespace Go.Proofs.YtcllifmaokldbaaDoor
set_option linter.unusedVariables false
set_option maxRecDepth 100000
open Go.ChangeShapes Go.WideShapes Go.ChangeAt Go.RowKit

theorem e_pnodeTexts : ∀ args w, (callFunc 15 args).run Tryd.prog w = .ok (.enter 15 args) w := enters_of Tryd.func15 (by kernel_rfl) rfl
/-- A value reads as texts, not in block g. -/
structure TxAt (g : Nat) (W : World) (u : Value) (T : List (List UInt8)) : Prop where
  r : RowRd 1 StrEl W u (strs T)
  ne : u.ownBlock ≠ some g
  one : u.oneCell' = true
theorem TxAt.but {g : Nat} {W W' : World} {u : Value} {T : List (List UInt8)} (h : TxAt g W u T) (hb : ButF [g] W W') : TxAt g W' u T := by
  refine ⟨?_, h.ne, h.one⟩
  obtain ⟨hr, hn, -⟩ := h
  have hr0 := hr
  obtain ⟨p, cap, rfl, hm, hq⟩ := hr.form
  by_cases hz : 0 < (strs T).length
  case neg => exact .inl ⟨List.eq_nil_of_length_eq_zero (by omega), _, _, by rw [show (strs T).length = 0 by omega]⟩
  refine RowRd.mk hm (hr0.cap hz) fun h0 => ?_
  obtain ⟨b, o, rfl, hbw, hc⟩ := hq h0
  have hne : b ∉ [g] := fun hg => hn (by rw [List.mem_singleton.1 hg]; rfl)
  refine ⟨b, o, rfl, Nat.lt_of_lt_of_le hbw hb.size, fun i hi => ?_⟩
  obtain ⟨h1, h2⟩ := hc i hi
  exact ⟨(World.cell?_of_block (a := ⟨b, o + i * 1, none⟩) (hb.block b hbw hne)).trans h1, h2⟩
set_option maxHeartbeats 4000000 in
theorem iMapPn (l : List PN) (v : Value) (w : World) (hR : RowRd 4 PNEl w v l) (hl : l.length ≤ 1048576) (hall : ∀ x ∈ l, isPNB x = true) (htab : Lib.TabIs Tryd.prog w "internal/strconv.uint64pow10" .u64 Lib.pow10Tab) :
    Calls Tryd.prog 14 #[v, .func (.func 15) #[] #[]] w fun e w' => ∃ v' us, e = .returned v' ∧ us.length = l.length ∧ w'.ownsRow w.heap.size 42 1 v' us.length us ∧ (∀ g, v'.ownBlock = some g → ∀ j (h : j < us.length) (h2 : j < l.length), TxAt g w' us[j] (pTexts numL l[j])) ∧ Below w.heap.size w w' := by
  obtain ⟨p, cap, rfl, hm, hR⟩ := hR.form
  unfold maxLen at hm
  obtain ⟨ii, hi, hz0, hz1, hz2⟩ := info_parts info_strs
  obtain ⟨w0, hmk, hown0, hgr0⟩ := run_make_own (P := Tryd.prog) w w.heap.size 37 42 ii (.slice none 0 0) 1 Tryd.underlying37 hi hz0 hz1 .i64 .i64 l.length (by rw [hz2]; omega) (by unfold maxLen; omega) (Nat.le_refl _)
  have hb0 : Below w.heap.size w w0 := (Below.refl _ _).grown hgr0 (Nat.le_refl _) (fun k hk => by simp at hk)
  have HA := Lib.hid hall
  have HT := Lib.hid htab
  clear hall htab
  have e_item := e_pnodeTexts
  go_enter Tryd.func14, Tryd.ntmps14
  go_wp2
  go_loopw [5, 13] (fun nx i wr => ∃ (k : Nat) (us : List Value), i = .int .i64 k ∧ k ≤ l.length ∧ us.length = k ∧ wr.ownsRow w.heap.size 42 1 nx us.length us ∧ Hid (∀ u ∈ us, u.oneCell' = true) ∧ Hid (∀ j (h : j < us.length) (h2 : j < l.length), wr.ownsRow w.heap.size 9 1 us[j] (strs (pTexts numL l[j])).length (sc (strs (pTexts numL l[j])))) ∧ Below w.heap.size w wr ∧ w.heap.size ≤ wr.heap.size) (fun _ i _ => l.length - (intOf i).toNat)
  case atStart => exact ⟨0, [], rfl, Nat.zero_le _, rfl, hown0, Lib.hid (by simp), Lib.hid (by simp), hb0, hb0.size⟩
  case round =>
    obtain ⟨k, us, rfl, hk, hlen, hown, hone, hin, hbel, hsz⟩ := hrel
    by_cases hlt : k < l.length
    · obtain ⟨b, o, rfl, hbw, hc⟩ := hR (by omega)
      have ex := PNEl.st w wr b _ _ (Kept.of_below hbel) hbw (hc k hlt)
      have hxk := HA.out l[k] (List.getElem_mem hlt)
      obtain ⟨x, hxe⟩ : ∃ x, l[k] = x := ⟨_, rfl⟩
      rw [hxe] at ex hxk
      have HX := Lib.hid hxe
      obtain ⟨⟨e0, i0⟩, ⟨e1, i1⟩, ⟨e2, i2⟩, ⟨u3, e3, r3⟩⟩ := ex
      obtain ⟨pk, ck, rfl, -, -⟩ := r3.form
      have hag := Lib.hid (iPnTexts x pk ck (wr.alloc (.cells #[.int .i64 x.kind, .int .i64 x.n, .string x.s, .slice pk x.kids.length ck] 41)) hxk (tab_below HT.out (below_tr hbel (Joins.below_alloc1 wr _))))
      clear hc hR hmk hown0 hgr0 hb0 hxe hxk
      go_wp2_with (first
        | (go_at_call 15; refine hag.out.mono ?_; rintro e w1 ⟨u, rfl, ru, ou, hb⟩; have hb1 := below_tr (Joins.below_alloc1 wr _) hb; have hown1 := own_below hown hb1; have hbel1 := below_tr hbel hb1; have hsz1 := Nat.le_trans hsz hb1.size; obtain ⟨ua, uc, rfl, -, -⟩ := ru.form; have hu1 : Hid (∀ y ∈ [(.slice ua (strs (pTexts numL x)).length uc : Value)], y.oneCell' = true) := Lib.hid (by intro y hy; rw [List.mem_singleton.1 hy]; rfl))
        | (at_builtin; go_loud (refine wpList_append_own _ rfl (.tmp 17) (.tmp 21) 37 rfl w.heap.size 42 ii (.slice none 0 0) 1 24 Tryd.underlying37 hi hz0 hz1 hz2 rfl (by decide) _ us.length us rfl (hown1.alloc _) ⟨w1.heap.size, 0, none⟩ 1 1 [.slice ua (strs (pTexts numL x)).length uc] rfl rfl (new_cells _ _ _ _ rfl) hu1.out (by unfold maxLen; omega) (by omega) (by simp; omega) ?_); intro v' w2 hown' hgrow _))
      have R := own_app hown1 hbel1 (Nat.le_refl _) hsz1 hgrow
      have ou2 := ((own_down ou (B2 := w.heap.size) (by simp; omega)).alloc _).kept hgrow (own_two' (own_down ou (B2 := w.heap.size) (by simp; omega)) hown1 (by decide))
      have hin2 : Hid (∀ j (h : j < (us ++ [Value.slice ua (strs (pTexts numL x)).length uc]).length) (h2 : j < l.length), w2.ownsRow w.heap.size 9 1 (us ++ [Value.slice ua (strs (pTexts numL x)).length uc])[j] (strs (pTexts numL l[j])).length (sc (strs (pTexts numL l[j])))) := Lib.hid (by
        intro j h h2
        by_cases hj : j < us.length
        · have h3 := own_below (hin.out j hj h2) hb1
          rw [List.getElem_append_left hj]
          exact (h3.alloc _).kept hgrow (own_two' h3 hown1 (by decide))
        · have : j = k := by simp at h; omega
          subst this
          rw [List.getElem_append_right (by omega)]
          simp only [HX.out, hlen, Nat.sub_self, List.getElem_singleton]
          exact ou2)
      have hone2 : Hid (∀ y ∈ us ++ [Value.slice ua (strs (pTexts numL x)).length uc], y.oneCell' = true) := Lib.hid fun y hy => (List.mem_append.1 hy).elim (hone.out y) (hu1.out y)
      clear hown hown1 hgrow hbel hbel1 hin ou ou2 ru hone hu1 hag
      go_roundw
      case rel => exact ⟨k + 1, us ++ [Value.slice ua (strs (pTexts numL x)).length uc], by go_num, by omega, by simp; omega, by rw [List.length_append]; exact hown', hone2, hin2, R.1, R.2⟩
      case measure => simp [intOf]; omega
    · obtain rfl : k = l.length := by omega
      clear hR hmk hown0 hgr0 hb0
      go_wp2
      go_ret
      refine ⟨_, us, rfl, hlen, hown, fun g hg j h h2 => ?_, hbel⟩
      have hx := HA.out l[j] (List.getElem_mem h2)
      obtain ⟨t1, t2⟩ := pT_ok hx
      have ho := hin.out j h h2
      refine ⟨own_rds ho (by rw [strs_length]; unfold maxLen; omega) fun y hy => ?_, ?_, hone.out _ (List.getElem_mem h)⟩
      · obtain ⟨t, ht, rfl⟩ := List.mem_map.1 hy
        exact sz_ok t (by have := t2 t ht; omega)
      · rcases own_two' ho hown (by decide) with h3 | h3
        · rw [h3]; simp
        · rw [← hg]; exact h3
end Go.Proofs.YtcllifmaokldbaaDoor
