/- The program's rows of texts: mapped at a type's items, and how many texts each has. -/
import Derived.Test.YtdgadjikdnmnoaaDoorPrI
namespace Go.Proofs.YtdgadjikdnmnoaaDoor
set_option linter.unusedVariables false
set_option maxRecDepth 100000
open Go.ChangeShapes Go.WideShapes Go.ChangeAt Go.RowKit

theorem info_strs : (Tryd.prog.info? 42).map (fun i => (i.zero, i.size, i.bytes)) = some (some (.slice none 0 0), 1, 24) := by kernel_rfl
theorem e_itemTexts : ∀ args w, (callFunc 16 args).run Tryd.prog w = .ok (.enter 16 args) w := enters_of Tryd.func16 (by kernel_rfl) rfl
theorem itemT_ok {x : TyI} (hx : itemB x = true) : ((itemT varL x).length : Int) = x.arity + 1 ∧ (itemT varL x).length ≤ 3 ∧ ∀ t ∈ itemT varL x, t.length ≤ 40 := by
  have hn := item_name hx
  have hv := item_var hx
  by_cases hn0 : x.name.toList = []
  · have := varL_len x.var (hv hn0).1 (hv hn0).2.1
    have := (hv hn0).2.2
    rw [itemT, if_pos hn0]
    simp; omega
  · rcases item_arity hx with h | h | h
    · rw [itemT, if_neg hn0, if_pos h]; simp; omega
    · rw [itemT, if_neg hn0, if_neg (by omega), if_pos h]; simp; omega
    · rw [itemT, if_neg hn0, if_neg (by omega), if_neg (by omega)]
      split <;> simp <;> omega
theorem own_down {B B2 e m n : Nat} {w : World} {v : Value} {xs : List Value} (h : w.ownsRow B e m v n xs) (hB : B2 ≤ B) : w.ownsRow B2 e m v n xs := by
  obtain ⟨h0, h1 | ⟨g, cap, cur, rfl, h1, h2⟩⟩ := h
  · exact ⟨h0, .inl h1⟩
  · exact ⟨h0, .inr ⟨g, cap, cur, rfl, Nat.le_trans hB h1, h2⟩⟩
theorem own_two' {w : World} {B e B2 e2 n m n2 m2 : Nat} {v v2 : Value} {xs xs2 : List Value} (h : w.ownsRow B e m v n xs) (h2 : w.ownsRow B2 e2 m2 v2 n2 xs2) (he : e ≠ e2) : v.ownBlock = none ∨ v.ownBlock ≠ v2.ownBlock := by
  obtain ⟨_, ⟨rfl, _⟩ | ⟨g', cap, cur, rfl, _, h3, _⟩⟩ := h
  · exact .inl rfl
  · right
    intro hg
    obtain ⟨_, ⟨rfl, _⟩ | ⟨g2, cap2, cur2, rfl, _, h4, _⟩⟩ := h2
    · cases hg
    · cases hg
      rw [h3] at h4
      injection h4 with h4
      injection h4 with _ h5
      exact he h5
/-- A row of rows of strings, read. -/
theorem own_rows {B e : Nat} {w : World} {v : Value} {us : List Value} {T : List (List ByteArray)} (h : w.ownsRow B e 1 v us.length us) (hl : us.length = T.length) (hm : T.length ≤ maxLen)
    (hin : ∀ j (h : j < us.length) (h2 : j < T.length), RowRd 1 StrEl w us[j] T[j]) : RowRd 1 (RowEl 1 StrEl) w v T := by
  by_cases h0 : 0 < us.length
  · obtain ⟨g, cap, rfl, h1, h2, h3, h4, _⟩ := own_shape h h0
    rw [hl] at h3 h4 ⊢
    refine .inr ⟨g, 0, cap, rfl, ⟨hm, h3⟩, h2, by omega, fun i hi => ?_⟩
    have := h4 i hi
    rw [Nat.mul_one, Nat.zero_add]
    exact ⟨us[i]'(by omega), by rw [this]; simp [hl, hi], hin i (by omega) hi⟩
  · obtain rfl : T = [] := List.eq_nil_of_length_eq_zero (by omega)
    have hz : us.length = 0 := by omega
    rw [hz] at h
    obtain ⟨hx, ⟨rfl, _⟩ | ⟨g, cap, cur, rfl, _⟩⟩ := h
    · exact .inl ⟨rfl, _, _, rfl⟩
    · exact .inl ⟨rfl, _, _, rfl⟩
set_option maxHeartbeats 4000000 in
theorem iMapTx (l : List TyI) (v : Value) (w : World) (hR : RowRd 3 TyIEl w v l) (hl : l.length ≤ 1048576) (hall : ∀ x ∈ l, itemB x = true) (htab : Lib.TabIs Tryd.prog w "internal/strconv.uint64pow10" .u64 Lib.pow10Tab) :
    Calls Tryd.prog 15 #[v, .func (.func 16) #[] #[]] w fun e w' => ∃ v', e = .returned v' ∧ RowRd 1 (RowEl 1 StrEl) w' v' (l.map fun x => strs (itemT varL x)) ∧ Below w.heap.size w w' := by
  obtain ⟨p, cap, rfl, hm, hR⟩ := hR.form
  unfold maxLen at hm
  obtain ⟨ii, hi, hz0, hz1, hz2⟩ := info_parts info_strs
  obtain ⟨w0, hmk, hown0, hgr0⟩ := run_make_own (P := Tryd.prog) w w.heap.size 38 42 ii (.slice none 0 0) 1 Tryd.underlying38 hi hz0 hz1 .i64 .i64 l.length (by rw [hz2]; omega) (by unfold maxLen; omega) (Nat.le_refl _)
  have hb0 : Below w.heap.size w w0 := (Below.refl _ _).grown hgr0 (Nat.le_refl _) (fun k hk => by simp at hk)
  have HA := Lib.hid hall
  have HT := Lib.hid htab
  clear hall htab
  have e_item := e_itemTexts
  go_enter Tryd.func15, Tryd.ntmps15
  go_wp2
  go_loopw [5, 13] (fun nx i wr => ∃ (k : Nat) (us : List Value), i = .int .i64 k ∧ k ≤ l.length ∧ us.length = k ∧ wr.ownsRow w.heap.size 42 1 nx us.length us ∧ Hid (∀ u ∈ us, u.oneCell' = true) ∧ Hid (∀ j (h : j < us.length) (h2 : j < l.length), wr.ownsRow w.heap.size 9 1 us[j] (strs (itemT varL l[j])).length (sc (strs (itemT varL l[j])))) ∧ Below w.heap.size w wr ∧ w.heap.size ≤ wr.heap.size) (fun _ i _ => l.length - (intOf i).toNat)
  case atStart => exact ⟨0, [], rfl, Nat.zero_le _, rfl, hown0, Lib.hid (by simp), Lib.hid (by simp), hb0, hb0.size⟩
  case round =>
    obtain ⟨k, us, rfl, hk, hlen, hown, hone, hin, hbel, hsz⟩ := hrel
    by_cases hlt : k < l.length
    · obtain ⟨b, o, rfl, hbw, hc⟩ := hR (by omega)
      have ex := TyIEl.st w wr b _ _ (Kept.of_below hbel) hbw (hc k hlt)
      have hxk := HA.out l[k] (List.getElem_mem hlt)
      obtain ⟨x, hxe⟩ : ∃ x, l[k] = x := ⟨_, rfl⟩
      rw [hxe] at ex hxk
      have HX := Lib.hid hxe
      have hag := Lib.hid (iItemTexts x (wr.alloc (.cells #[.int .i64 x.var, .string x.name, .int .i64 x.arity] 41)) hxk (tab_below HT.out (below_tr hbel (Joins.below_alloc1 wr _))))
      clear hc hR hmk hown0 hgr0 hb0 hxe hxk
      obtain ⟨⟨e0, i0⟩, ⟨e1, i1⟩, ⟨e2, i2⟩⟩ := ex
      go_wp2_with (first
        | (go_at_call 16; refine hag.out.mono ?_; rintro e w1 ⟨u, rfl, ru, ou, hb⟩; have hb1 := below_tr (Joins.below_alloc1 wr _) hb; have hown1 := own_below hown hb1; have hbel1 := below_tr hbel hb1; have hsz1 := Nat.le_trans hsz hb1.size; obtain ⟨ua, uc, rfl, -, -⟩ := ru.form; have hu1 : Hid (∀ y ∈ [(.slice ua (strs (itemT varL x)).length uc : Value)], y.oneCell' = true) := Lib.hid (by intro y hy; rw [List.mem_singleton.1 hy]; rfl))
        | (at_builtin; go_loud (refine wpList_append_own _ rfl (.tmp 17) (.tmp 21) 38 rfl w.heap.size 42 ii (.slice none 0 0) 1 24 Tryd.underlying38 hi hz0 hz1 hz2 rfl (by decide) _ us.length us rfl (hown1.alloc _) ⟨w1.heap.size, 0, none⟩ 1 1 [.slice ua (strs (itemT varL x)).length uc] rfl rfl (new_cells _ _ _ _ rfl) hu1.out (by unfold maxLen; omega) (by omega) (by simp; omega) ?_); intro v' w2 hown' hgrow _))
      have R := own_app hown1 hbel1 (Nat.le_refl _) hsz1 hgrow
      have ou2 := ((own_down ou (B2 := w.heap.size) (by simp; omega)).alloc _).kept hgrow (own_two' (own_down ou (B2 := w.heap.size) (by simp; omega)) hown1 (by decide))
      have hin2 : Hid (∀ j (h : j < (us ++ [Value.slice ua (strs (itemT varL x)).length uc]).length) (h2 : j < l.length), w2.ownsRow w.heap.size 9 1 (us ++ [Value.slice ua (strs (itemT varL x)).length uc])[j] (strs (itemT varL l[j])).length (sc (strs (itemT varL l[j])))) := Lib.hid (by
        intro j h h2
        by_cases hj : j < us.length
        · have h3 := own_below (hin.out j hj h2) hb1
          rw [List.getElem_append_left hj]
          exact (h3.alloc _).kept hgrow (own_two' h3 hown1 (by decide))
        · have : j = k := by simp at h; omega
          subst this
          rw [List.getElem_append_right (by omega)]
          simp only [HX.out, hlen, Nat.sub_self, List.getElem_singleton]
          exact ou2)
      have hone2 : Hid (∀ y ∈ us ++ [Value.slice ua (strs (itemT varL x)).length uc], y.oneCell' = true) := Lib.hid fun y hy => (List.mem_append.1 hy).elim (hone.out y) (hu1.out y)
      clear hown hown1 hgrow hbel hbel1 hin ou ou2 ru hone hu1 hag
      go_roundw
      case rel => exact ⟨k + 1, us ++ [Value.slice ua (strs (itemT varL x)).length uc], by go_num, by omega, by simp; omega, by rw [List.length_append]; exact hown', hone2, hin2, R.1, R.2⟩
      case measure => simp [intOf]; omega
    · obtain rfl : k = l.length := by omega
      clear hR hmk hown0 hgr0 hb0
      go_wp2
      go_ret
      refine ⟨_, rfl, own_rows hown (by simpa using hlen) (by simp; unfold maxLen; omega) ?_, hbel⟩
      intro j h h2
      have h3 : j < l.length := by simpa using h2
      obtain ⟨t1, t2, t3⟩ := itemT_ok (HA.out l[j] (List.getElem_mem h3))
      rw [List.getElem_map]
      refine own_rds (hin.out j h h3) (by rw [strs_length]; unfold maxLen; omega) ?_
      intro y hy
      obtain ⟨t, ht, rfl⟩ := List.mem_map.1 hy
      exact sz_ok t (by have := t3 t ht; omega)
end Go.Proofs.YtdgadjikdnmnoaaDoor
