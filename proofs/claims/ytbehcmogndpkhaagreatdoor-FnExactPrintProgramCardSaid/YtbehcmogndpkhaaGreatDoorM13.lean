/- Texts of this proof, merged: PrW, PrK, RegionOwn, PrV, PrU. -/
import Derived.Test.YtbehcmogndpkhaaGreatDoorM12
import Derived.Test.YtbehcmogndpkhaaGreatDoorM6
import Derived.Test.YtbehcmogndpkhaaGreatDoorM8
import Derived.WalkKit
import Derived.WalkSmall
import Derived.ProofKit
import Derived.OpenShut
import Derived.Lib.Hide
import Derived.Lib.SmallJoins
import Derived.StillTailTactics
import Derived.Shelf.Abstract
import Derived.Laws.EntriesVeiled
import Derived.Deep.RegionLaw
namespace Go.Proofs.YtbehcmogndpkhaaGreatDoor
set_option linter.unusedVariables false
set_option maxRecDepth 100000
open Go.ChangeShapes Go.WideShapes Go.ChangeAt Go.RowKit

theorem info_strs : (Tryz.prog.info? 36).map (fun i => (i.zero, i.size, i.bytes)) = some (some (.slice none 0 0), 1, 24) := by kernel_rfl
theorem e_itemTexts : ∀ args w, (callFunc 197 args).run Tryz.prog w = .ok (.enter 197 args) w := enters_of Tryz.func197 (by kernel_rfl) rfl
theorem itemT_ok {x : TyI} (hx : itemB x = true) : ((itemT varL x).length : Int) = x.arity + 1 ∧ (itemT varL x).length ≤ 3 ∧ ∀ t ∈ itemT varL x, t.length ≤ 40 := by
  have hn := item_name hx
  have hv := item_var hx
  by_cases hn0 : x.name.toList = []
  · have := varL_len x.var (hv hn0).1 (hv hn0).2.1
    have := (hv hn0).2.2
    rw [itemT, if_pos hn0]
    simp; omega
  · rcases item_arity hx with h | h | h
    · rw [itemT, if_neg hn0, if_pos h]; simp; omega
    · rw [itemT, if_neg hn0, if_neg (by omega), if_pos h]; simp; omega
    · rw [itemT, if_neg hn0, if_neg (by omega), if_neg (by omega)]
      split <;> simp <;> omega
theorem own_down {B B2 e m n : Nat} {w : World} {v : Value} {xs : List Value} (h : w.ownsRow B e m v n xs) (hB : B2 ≤ B) : w.ownsRow B2 e m v n xs := by
  obtain ⟨h0, h1 | ⟨g, cap, cur, rfl, h1, h2⟩⟩ := h
  · exact ⟨h0, .inl h1⟩
  · exact ⟨h0, .inr ⟨g, cap, cur, rfl, Nat.le_trans hB h1, h2⟩⟩
theorem own_two' {w : World} {B e B2 e2 n m n2 m2 : Nat} {v v2 : Value} {xs xs2 : List Value} (h : w.ownsRow B e m v n xs) (h2 : w.ownsRow B2 e2 m2 v2 n2 xs2) (he : e ≠ e2) : v.ownBlock = none ∨ v.ownBlock ≠ v2.ownBlock := by
  obtain ⟨_, ⟨rfl, _⟩ | ⟨g', cap, cur, rfl, _, h3, _⟩⟩ := h
  · exact .inl rfl
  · right
    intro hg
    obtain ⟨_, ⟨rfl, _⟩ | ⟨g2, cap2, cur2, rfl, _, h4, _⟩⟩ := h2
    · cases hg
    · cases hg
      rw [h3] at h4
      injection h4 with h4
      injection h4 with _ h5
      exact he h5
/-- A row of rows of strings, read. -/
theorem own_rows {B e : Nat} {w : World} {v : Value} {us : List Value} {T : List (List ByteArray)} (h : w.ownsRow B e 1 v us.length us) (hl : us.length = T.length) (hm : T.length ≤ maxLen)
    (hin : ∀ j (h : j < us.length) (h2 : j < T.length), RowRd 1 StrEl w us[j] T[j]) : RowRd 1 (RowEl 1 StrEl) w v T := by
  by_cases h0 : 0 < us.length
  · obtain ⟨g, cap, rfl, h1, h2, h3, h4, _⟩ := own_shape h h0
    rw [hl] at h3 h4 ⊢
    refine .inr ⟨g, 0, cap, rfl, ⟨hm, h3⟩, h2, by omega, fun i hi => ?_⟩
    have := h4 i hi
    rw [Nat.mul_one, Nat.zero_add]
    exact ⟨us[i]'(by omega), by rw [this]; simp [hl, hi], hin i (by omega) hi⟩
  · obtain rfl : T = [] := List.eq_nil_of_length_eq_zero (by omega)
    have hz : us.length = 0 := by omega
    rw [hz] at h
    obtain ⟨hx, ⟨rfl, _⟩ | ⟨g, cap, cur, rfl, _⟩⟩ := h
    · exact .inl ⟨rfl, _, _, rfl⟩
    · exact .inl ⟨rfl, _, _, rfl⟩
set_option maxHeartbeats 4000000 in
theorem iMapTx (l : List TyI) (v : Value) (w : World) (hR : RowRd 3 TyIEl w v l) (hl : l.length ≤ 1048576) (hall : ∀ x ∈ l, itemB x = true) (htab : Lib.TabIs Tryz.prog w "internal/strconv.uint64pow10" .u64 Lib.pow10Tab) :
    Calls Tryz.prog 196 #[v, .func (.func 197) #[] #[]] w fun e w' => ∃ v', e = .returned v' ∧ RowRd 1 (RowEl 1 StrEl) w' v' (l.map fun x => strs (itemT varL x)) ∧ Below w.heap.size w w' := by
  obtain ⟨p, cap, rfl, hm, hR⟩ := hR.form
  unfold maxLen at hm
  obtain ⟨ii, hi, hz0, hz1, hz2⟩ := info_parts info_strs
  obtain ⟨w0, hmk, hown0, hgr0⟩ := run_make_own (P := Tryz.prog) w w.heap.size 65 36 ii (.slice none 0 0) 1 Tryz.underlying65 hi hz0 hz1 .i64 .i64 l.length (by rw [hz2]; omega) (by unfold maxLen; omega) (Nat.le_refl _)
  have hb0 : Below w.heap.size w w0 := (Below.refl _ _).grown hgr0 (Nat.le_refl _) (fun k hk => by simp at hk)
  have HA := Lib.hid hall
  have HT := Lib.hid htab
  clear hall htab
  have e_item := e_itemTexts
  go_enter Tryz.func196, Tryz.ntmps196
  go_wp2
  go_loopw [5, 13] (fun nx i wr => ∃ (k : Nat) (us : List Value), i = .int .i64 k ∧ k ≤ l.length ∧ us.length = k ∧ wr.ownsRow w.heap.size 36 1 nx us.length us ∧ Hid (∀ u ∈ us, u.oneCell' = true) ∧ Hid (∀ j (h : j < us.length) (h2 : j < l.length), wr.ownsRow w.heap.size 9 1 us[j] (strs (itemT varL l[j])).length (sc (strs (itemT varL l[j])))) ∧ Below w.heap.size w wr ∧ w.heap.size ≤ wr.heap.size) (fun _ i _ => l.length - (intOf i).toNat)
  case atStart => exact ⟨0, [], rfl, Nat.zero_le _, rfl, hown0, Lib.hid (by simp), Lib.hid (by simp), hb0, hb0.size⟩
  case round =>
    obtain ⟨k, us, rfl, hk, hlen, hown, hone, hin, hbel, hsz⟩ := hrel
    by_cases hlt : k < l.length
    · obtain ⟨b, o, rfl, hbw, hc⟩ := hR (by omega)
      have ex := TyIEl.st w wr b _ _ (Kept.of_below hbel) hbw (hc k hlt)
      have hxk := HA.out l[k] (List.getElem_mem hlt)
      obtain ⟨x, hxe⟩ : ∃ x, l[k] = x := ⟨_, rfl⟩
      rw [hxe] at ex hxk
      have HX := Lib.hid hxe
      have hag := Lib.hid (iItemTexts x (wr.alloc (.cells #[.int .i64 x.var, .string x.name, .int .i64 x.arity] 117)) hxk (tab_below HT.out (below_tr hbel (Joins.below_alloc1 wr _))))
      clear hc hR hmk hown0 hgr0 hb0 hxe hxk
      obtain ⟨⟨e0, i0⟩, ⟨e1, i1⟩, ⟨e2, i2⟩⟩ := ex
      go_wp2_with (first
        | (go_at_call 197; refine hag.out.mono ?_; rintro e w1 ⟨u, rfl, ru, ou, hb⟩; have hb1 := below_tr (Joins.below_alloc1 wr _) hb; have hown1 := own_below hown hb1; have hbel1 := below_tr hbel hb1; have hsz1 := Nat.le_trans hsz hb1.size; obtain ⟨ua, uc, rfl, -, -⟩ := ru.form; have hu1 : Hid (∀ y ∈ [(.slice ua (strs (itemT varL x)).length uc : Value)], y.oneCell' = true) := Lib.hid (by intro y hy; rw [List.mem_singleton.1 hy]; rfl))
        | (at_builtin; go_loud (refine wpList_append_own _ rfl (.tmp 17) (.tmp 21) 65 rfl w.heap.size 36 ii (.slice none 0 0) 1 24 Tryz.underlying65 hi hz0 hz1 hz2 rfl (by decide) _ us.length us rfl (hown1.alloc _) ⟨w1.heap.size, 0, none⟩ 1 1 [.slice ua (strs (itemT varL x)).length uc] rfl rfl (new_cells _ _ _ _ rfl) hu1.out (by unfold maxLen; omega) (by omega) (by simp; omega) ?_); intro v' w2 hown' hgrow _))
      have R := own_app hown1 hbel1 (Nat.le_refl _) hsz1 hgrow
      have ou2 := ((own_down ou (B2 := w.heap.size) (by simp; omega)).alloc _).kept hgrow (own_two' (own_down ou (B2 := w.heap.size) (by simp; omega)) hown1 (by decide))
      have hin2 : Hid (∀ j (h : j < (us ++ [Value.slice ua (strs (itemT varL x)).length uc]).length) (h2 : j < l.length), w2.ownsRow w.heap.size 9 1 (us ++ [Value.slice ua (strs (itemT varL x)).length uc])[j] (strs (itemT varL l[j])).length (sc (strs (itemT varL l[j])))) := Lib.hid (by
        intro j h h2
        by_cases hj : j < us.length
        · have h3 := own_below (hin.out j hj h2) hb1
          rw [List.getElem_append_left hj]
          exact (h3.alloc _).kept hgrow (own_two' h3 hown1 (by decide))
        · have : j = k := by simp at h; omega
          subst this
          rw [List.getElem_append_right (by omega)]
          simp only [HX.out, hlen, Nat.sub_self, List.getElem_singleton]
          exact ou2)
      have hone2 : Hid (∀ y ∈ us ++ [Value.slice ua (strs (itemT varL x)).length uc], y.oneCell' = true) := Lib.hid fun y hy => (List.mem_append.1 hy).elim (hone.out y) (hu1.out y)
      clear hown hown1 hgrow hbel hbel1 hin ou ou2 ru hone hu1 hag
      go_roundw
      case rel => exact ⟨k + 1, us ++ [Value.slice ua (strs (itemT varL x)).length uc], by go_num, by omega, by simp; omega, by rw [List.length_append]; exact hown', hone2, hin2, R.1, R.2⟩
      case measure => simp [intOf]; omega
    · obtain rfl : k = l.length := by omega
      clear hR hmk hown0 hgr0 hb0
      go_wp2
      go_ret
      refine ⟨_, rfl, own_rows hown (by simpa using hlen) (by simp; unfold maxLen; omega) ?_, hbel⟩
      intro j h h2
      have h3 : j < l.length := by simpa using h2
      obtain ⟨t1, t2, t3⟩ := itemT_ok (HA.out l[j] (List.getElem_mem h3))
      rw [List.getElem_map]
      refine own_rds (hin.out j h h3) (by rw [strs_length]; unfold maxLen; omega) ?_
      intro y hy
      obtain ⟨t, ht, rfl⟩ := List.mem_map.1 hy
      exact sz_ok t (by have := t3 t ht; omega)
end Go.Proofs.YtbehcmogndpkhaaGreatDoor
namespace Go.Proofs.YtbehcmogndpkhaaGreatDoor
set_option linter.unusedVariables false
set_option maxRecDepth 100000
open Go.ChangeShapes Go.WideShapes Go.ChangeAt Go.RowKit

theorem iter_len {σ : Type} (L : σ → Nat) (g : σ → Int → Int × σ) (V : σ → Nat → Int → Bool × σ) (hg : ∀ s n q, 0 ≤ n → (L s : Int) ≤ 2 * n + q → 0 ≤ (g s n).1 → (L (g s n).2 : Int) + 1 ≤ 2 * (g s n).1 + q) (hL : ∀ s d n, L (V s d n).2 ≤ L s + 1) :
    ∀ t d (n : Int) s (q : Int), 0 ≤ n → (L s : Int) + 1 ≤ 2 * n + q → 0 ≤ (iterS g V t d n s).1 → (L (iterS g V t d n s).2 : Int) + 1 ≤ 2 * (iterS g V t d n s).1 + q := by
  intro t
  induction t with
  | zero => intro d n s q h0 h h1; exact h
  | succ t ih =>
    intro d n s q h0 h h1
    rw [iterS] at h1 ⊢
    by_cases hn : (g s n).1 < 0
    · rw [if_pos hn] at h1; simp at h1
    · rw [if_neg hn] at h1 ⊢
      by_cases hv : (V (g s n).2 (d + 1) (g s n).1).1 = true
      · rw [if_pos hv] at h1 ⊢
        have h2 := hg s n (q - 1) h0 (by omega) (by omega)
        have h3 := hL (g s n).2 (d + 1) (g s n).1
        exact ih _ _ _ q (by omega) (by omega) h1
      · rw [if_neg hv] at h1; simp at h1
theorem walk_len {σ : Type} (L : σ → Nat) (V : σ → Nat → Nat → Int → Bool × σ) (hL : ∀ s a d n, L (V s a d n).2 ≤ L s + 1) (cs : List Int) :
    ∀ f s (a : Int) (q : Int), 0 ≤ a → (L s : Int) ≤ 2 * a + q → 0 ≤ (walkS V cs f s a).1 → (L (walkS V cs f s a).2 : Int) + 1 ≤ 2 * (walkS V cs f s a).1 + q := by
  intro f
  induction f with
  | zero => intro s a q h0 h h1; simp [walkS] at h1
  | succ f ih =>
    intro s a q h0 h h1
    by_cases hl : (cs.length : Int) ≤ a
    · rw [walkS_out _ _ _ _ _ hl] at h1; simp at h1
    · obtain ⟨n, rfl⟩ : ∃ n : Nat, a = n := ⟨a.toNat, by omega⟩
      rw [walkS_in _ _ _ _ _ (by omega)] at h1 ⊢
      by_cases hb : (V s n 0 ((n : Int) + 1)).1 = true
      · rw [if_pos hb] at h1 ⊢
        have h3 := hL s n 0 ((n : Int) + 1)
        exact iter_len L _ _ ih (fun s d m => hL s n d m) _ _ _ _ q (by omega) (by omega) h1
      · rw [if_neg hb] at h1; simp at h1
theorem iWalkB {σ : Type} (L : σ → Nat) (V : σ → Nat → Nat → Int → Bool × σ) (J : σ → World → Prop) (g : Nat) (lb : Array Value) (eg : ∀ args w, (callFunc g args).run Tryz.prog w = .ok (.enter g args) w) (cs : List Int) (v : Value) (hl : cs.length ≤ 1048576)
    (hL : ∀ s a d n, L (V s a d n).2 ≤ L s + 1)
    (hJ : ∀ s W, J s W → RowRd 1 IntEl W v cs)
    (hV : ∀ s W (a d : Nat) (n : Int) (h : a < cs.length), J s W → d ≤ cs[a].toNat → 0 ≤ n → n ≤ cs.length → (L s : Int) ≤ 2 * cs.length → Calls Tryz.prog g (#[.int .i64 a, .int .i64 d, .int .i64 n] ++ lb) W fun e w' => e = .returned (.bool (V s a d n).1) ∧ J (V s a d n).2 w') :
    ∀ (f : Nat) (s : σ) (a : Nat) (w : World) (q : Int) (hs : J s w) (ha : a ≤ cs.length) (hf : cs.length < a + f) (hq : q ≤ 0) (hLs : (L s : Int) ≤ 2 * a + q),
      Calls Tryz.prog 82 #[v, .int .i64 a, .func (.func g) #[] lb] w fun e w' => e = .returned (.int .i64 (walkS V cs f s a).1) ∧ J (walkS V cs f s a).2 w' := by
  intro f
  induction f with
  | zero => intro s a w q hs ha hf hq hLs; omega
  | succ f ih =>
    intro s a w q hs ha hf hq hLs
    have HL0 := Lib.hid hL
    have HLs := Lib.hid hLs
    have HQ := Lib.hid hq
    obtain ⟨p, cap, rfl, hm, hR⟩ := (hJ s w hs).form
    by_cases hlt : a < cs.length
    · obtain ⟨bp, op, rfl, _, hcs⟩ := hR (by omega)
      have hci := (hcs a hlt).2
      have HB := Lib.hid (walkS_in V cs f s a hlt)
      have hge : ¬ (cs.length : Int) ≤ (a : Int) := by omega
      have hv0 := hV s w a 0 ((a : Int) + 1) hlt hs (Nat.zero_le _) (by omega) (by omega) (by omega)
      obtain ⟨b, s1, hb⟩ : ∃ b s1, V s a 0 ((a : Int) + 1) = (b, s1) := ⟨_, _, rfl⟩
      have HL1 : Hid (L s1 ≤ L s + 1) := by have := hL s a 0 ((a : Int) + 1); rw [hb] at this; exact this
      clear hL hLs hq
      rw [hb] at hv0
      have HW := Lib.hid hb
      clear hb hR hcs
      cases b
      · go_enter Tryz.func82, Tryz.ntmps82
        go_wp2_with (go_at_fn g; refine hv0.mono ?_; rintro e w1 ⟨rfl, hj1⟩)
        go_ret
        rw [HB.out, HW.out]
        exact ⟨rfl, hj1⟩
      · have HF := Lib.hid (show walkS V cs (f + 1) s a = iterS (walkS V cs f) (fun s d n => V s a d n) cs[a].toNat 0 ((a : Int) + 1) s1 from by rw [HB.out, HW.out]; rfl)
        have hrd : ∀ W, J s1 W → W.cell? ⟨bp, op + a, none⟩ = some (.int .i64 cs[a]) := by
          intro W hj
          obtain ⟨p', cap', e1, _, h2⟩ := (hJ s1 W hj).form
          cases e1
          obtain ⟨b, o, e2, _, h3⟩ := h2 (by omega)
          cases e2
          have := (h3 a hlt).1
          rw [Nat.mul_one] at this
          exact this
        have HV := Lib.hid fun s W d n hj hd h0 h1 hb => hV s W a d n hlt hj hd h0 h1 hb
        clear HB HW
        generalize cs[a] = c at *
        obtain ⟨hc1, hc2⟩ := hci
        go_enter Tryz.func82, Tryz.ntmps82
        go_wp2_with (go_at_fn g; refine hv0.mono ?_; rintro e w1 ⟨rfl, hj1⟩; have hcell := hrd w1 hj1)
        go_loopw [7, 26] (fun nx i wr => ∃ (k m : Nat) (s' : σ), i = .int .i64 k ∧ nx = .int .i64 m ∧ k ≤ c.toNat ∧ a < m ∧ m ≤ cs.length ∧ J s' wr ∧ Hid ((L s' : Int) + 1 ≤ 2 * m + q) ∧ iterS (walkS V cs f) (fun s d n => V s a d n) (c.toNat - k) k m s' = iterS (walkS V cs f) (fun s d n => V s a d n) c.toNat 0 ((a : Int) + 1) s1) (fun _ i _ => c.toNat - (intOf i).toNat)
        case atStart => exact ⟨0, a + 1, s1, rfl, by go_num, Nat.zero_le _, by omega, by omega, hj1, Lib.hid (by have := HL1.out; have := HLs.out; omega), by simp⟩
        case round =>
          obtain ⟨k, m, s', rfl, rfl, hk, ham, hml, hj, hlm, hit⟩ := hrel
          have HI := Lib.hid hit
          clear hit hcell hrd hv0
          by_cases hlt2 : (k : Int) < c
          · have hg := walkS_gt V cs f s' (m : Int) (by omega)
            have ihc := ih s' m wr (q - 1) hj hml (by omega) (by have := HQ.out; omega) (by have := hlm.out; omega)
            have hwl := walk_len L V HL0.out cs f s' (m : Int) (q - 1) (by omega) (by have := hlm.out; omega)
            obtain ⟨r, s2, hr⟩ : ∃ r s2, walkS V cs f s' (m : Int) = (r, s2) := ⟨_, _, rfl⟩
            rw [hr] at ihc hg hwl
            simp only at ihc hg hwl
            have HW2 := Lib.hid hwl
            clear hwl
            obtain ⟨t, ht⟩ : ∃ t, c.toNat - k = t + 1 := ⟨c.toNat - k - 1, by omega⟩
            rw [ht] at HI
            have hkc : k + 1 ≤ c.toNat := by omega
            by_cases hneg : r < 0
            · have HN := Lib.hid (iterS_neg (V := fun s d n => V s a d n) (t := t) (d := k) hr hneg)
              have HR := Lib.hid hr
              clear hr
              go_wp2_with (go_at_call 82; refine ihc.mono ?_; rintro e w2 ⟨rfl, hj2⟩)
              go_ret
              rw [HF.out, ← HI.out, HN.out]
              exact ⟨rfl, hj2⟩
            · obtain ⟨n, rfl⟩ : ∃ n : Nat, r = n := ⟨r.toNat, by omega⟩
              have hv1 := fun W hj' => Lib.hid (HV.out s2 W (k + 1) (n : Int) hj' hkc (by omega) (by omega) (by have := HW2.out (by omega); have := HQ.out; omega))
              obtain ⟨b, s3, hb⟩ : ∃ b s3, V s2 a (k + 1) (n : Int) = (b, s3) := ⟨_, _, rfl⟩
              have HL3 : Hid (L s3 ≤ L s2 + 1) := by have := HL0.out s2 a (k + 1) (n : Int); rw [hb] at this; exact this
              rw [hb] at hv1
              have hnd : decide ((n : Int) < 0) = false := by simp
              cases b
              · have HN := Lib.hid (iterS_no (V := fun s d n => V s a d n) (t := t) (d := k) hr hneg hb)
                have HR := Lib.hid hr
                clear hr hb
                go_wp2_with (first
                  | (go_at_call 82; refine ihc.mono ?_; rintro e w2 ⟨rfl, hj2⟩; have hv2 := (hv1 w2 hj2).out)
                  | (go_at_fn g; refine hv2.mono ?_; rintro e w3 ⟨rfl, hj3⟩))
                go_ret
                rw [HF.out, ← HI.out, HN.out]
                exact ⟨rfl, hj3⟩
              · have HN := Lib.hid (iterS_yes (V := fun s d n => V s a d n) (t := t) (d := k) hr hneg hb)
                have HR := Lib.hid hr
                clear hr hb
                go_wp2_with (first
                  | (go_at_call 82; refine ihc.mono ?_; rintro e w2 ⟨rfl, hj2⟩; have hv2 := (hv1 w2 hj2).out)
                  | (go_at_fn g; refine hv2.mono ?_; rintro e w3 ⟨rfl, hj3⟩))
                go_roundw
                case rel => exact ⟨k + 1, n, s3, by go_num, rfl, by omega, by omega, by omega, hj3, Lib.hid (by have := HW2.out (by omega); have := HL3.out; omega), by rw [← HI.out, HN.out, show c.toNat - (k + 1) = t from by omega]⟩
                case measure => simp [intOf]; omega
          · go_wp2
            go_ret
            rw [HF.out, ← HI.out, show c.toNat - k = 0 from by omega]
            exact ⟨rfl, hj⟩
    · have HB := Lib.hid (walkS_out V cs (f + 1) s a (by omega))
      have hge : (cs.length : Int) ≤ (a : Int) := by omega
      clear hR
      go_enter Tryz.func82, Tryz.ntmps82
      go_wp2
      go_ret
      rw [HB.out]
      exact ⟨rfl, hs⟩
end Go.Proofs.YtbehcmogndpkhaaGreatDoor
namespace Go.Proofs.YtbehcmogndpkhaaGreatDoor
set_option linter.unusedVariables false
set_option maxRecDepth 100000
open Go.RowKit

theorem step_append_own {P : Program} {ops : Array Oper} {o : Oper} {a : Act} {w : World} {K : Act → World → Prop} {Q : Exit → Act → World → Prop} {E : Prop}
    (hg : o.guard = none) (s x : Operand) (t : TypeId) (ho : o.op = .call { callee := .builtin .append, args := #[s, x], argTypes := #[t, t] })
    (base : Nat) (e : TypeId) (i : TypeInfo) (z : Value) (size bytes : Nat) (ht : P.underlying t = some (.slice e)) (hi : P.info? e = some i) (hz : i.zero = some z)
    (hsize : i.size = size) (hby : i.bytes = bytes) (hzs : z.cells.size = size) (hsz : 0 < size)
    (v : Value) (n : Nat) (xs : List Value) (hs : a.eval s = v) (hown : w.ownsRow base e size v n xs)
    (ad : Addr) (m c : Nat) (news : List Value) (hx : a.eval x = .slice (some ad) m c) (hl : news.length = m * size) (hnews : ∀ j u, news[j]? = some u → w.cell? (ad.add j) = some u) (h1 : ∀ u ∈ news, u.oneCell' = true)
    (h63 : n + m ≤ maxLen) (hbytes : (n + m) * bytes ≤ 140737488355328) (hbase : base ≤ w.heap.size)
    (h : ∀ v' w', w'.ownsRow base e size v' (n + m) (xs ++ news) → w.grownBy w' v.ownBlock → (v' = .slice none 0 0 ↔ v = .slice none 0 0 ∧ m = 0) → K (a.put o.dst v') w') :
    if Region.wanted o (yielded ops a.tmps) = true then Oper.wp P o a w K Q else E := by
  have hw : Region.wanted o (yielded ops a.tmps) = true := by simp [Region.wanted, hg]
  rw [if_pos hw]
  exact wp_append_own w s x t ho base e i z size bytes ht hi hz hsize hby hzs hsz v n xs hs hown ad m c news hx hl hnews h1 h63 hbytes hbase h
end Go.Proofs.YtbehcmogndpkhaaGreatDoor
namespace Go.Proofs.YtbehcmogndpkhaaGreatDoor
set_option linter.unusedVariables false
set_option maxRecDepth 100000
open Go.ChangeShapes Go.WideShapes Go.ChangeAt Go.RowKit

theorem info_str' : (Tryz.prog.info? 9).map (fun i => (i.zero, i.size, i.bytes)) = some (some (.string ⟨#[]⟩), 1, 16) := by kernel_rfl
theorem pr_own_ne {w : World} {B e e2 n m g : Nat} {v : Value} {xs : List Value} {c : Array Value} {f : Nat × Nat} (h : w.ownsRow B e m v n xs) (h2 : w.heap[g]? = some (.cells c e2 f)) (he : e ≠ e2) : v.ownBlock ≠ some g := by
  intro hg
  obtain ⟨_, ⟨rfl, _⟩ | ⟨g', cap, cur, rfl, _, h3, _⟩⟩ := h
  · cases hg
  · cases hg
    rw [h2] at h3
    injection h3 with h3
    injection h3 with _ h4
    exact he h4.symm
theorem pr_own_set {w : World} {B e n m b o : Nat} {v u : Value} {xs : List Value} (h : w.ownsRow B e m v n xs) (hne : v.ownBlock ≠ some b) : (w.setCell ⟨b, o, none⟩ u).ownsRow B e m v n xs := by
  obtain ⟨h0, h1 | ⟨g, cap, cur, rfl, h1, h2, h3⟩⟩ := h
  · exact ⟨h0, .inl h1⟩
  · exact ⟨h0, .inr ⟨g, cap, cur, rfl, h1, by rw [Below.heap_setCell _ _ _ _ (fun e => hne (by show some g = some b; rw [e]))]; exact h2, h3⟩⟩
theorem pr_box_set {w : World} {b : Nat} {y u : Value} {T : TypeId} {f : Nat × Nat} (h : w.heap[b]? = some (.cells #[y] T f)) : (w.setCell ⟨b, 0, none⟩ u).heap[b]? = some (.cells #[u] T f) := by
  rw [Go.Sort.setCell_eq]
  simp [Go.Sort.mapBlock, Array.getElem?_modify, h, Go.Sort.onCells]
theorem pr_box_cell {w : World} {b : Nat} {y : Value} {T : TypeId} (h : w.heap[b]? = some (.cells #[y] T (0, 0))) : w.cell? ⟨b, 0, none⟩ = some y ∧ w.frozen? ⟨b, 0, none⟩ = false := by
  constructor
  · simp [World.cell?, h]
  · simp [World.frozen?, h]
theorem pr_own_lit0 {W : World} {base n sz : Nat} {e : TypeId} (hn : n = W.heap.size) (hb : base ≤ W.heap.size) : (W.alloc (.cells #[] e)).ownsRow base e sz (.slice (some ⟨n, 0, none⟩) 0 0) 0 [] := by
  subst hn; exact World.ownsRow_lit W #[] 0 hb (by decide) (by simp)
theorem iLen1 (v : Value) (P : List ByteArray) (w : World) (h : RowRd 1 StrEl w v P) :
    Calls Tryz.prog 80 #[v] w fun e w' => e = .returned (.int .i64 ((P.length : Int) - 1)) ∧ Below w.heap.size w w' := by
  obtain ⟨p, c, rfl, hm, -⟩ := h.form
  unfold maxLen at hm
  have hw : IntKind.i64.wrap ((P.length : Int) - 1) = (P.length : Int) - 1 := IntWalk.i64_in _ (by omega)
  go_enter Tryz.func80, Tryz.ntmps80
  go_wp2
  go_ret
  exact ⟨rfl, Below.refl _ _⟩
theorem e_woven1 : ∀ args w, (callFunc 80 args).run Tryz.prog w = .ok (.enter 80 args) w := enters_of Tryz.func80 (by kernel_rfl) rfl
theorem e_woven2 : ∀ args w, (callFunc 81 args).run Tryz.prog w = .ok (.enter 81 args) w := enters_of Tryz.func81 (by kernel_rfl) rfl
set_option maxHeartbeats 4000000 in
theorem iMapLen (T : List (List ByteArray)) (v : Value) (w : World) (hR : RowRd 1 (RowEl 1 StrEl) w v T) (hl : T.length ≤ 1048576) :
    Calls Tryz.prog 79 #[v, .func (.func 80) #[] #[]] w fun e w' => ∃ v', e = .returned v' ∧ RowRd 1 IntEl w' v' (T.map fun P => (P.length : Int) - 1) ∧ Below w.heap.size w w' := by
  obtain ⟨p, cap, rfl, hm, hR⟩ := hR.form
  unfold maxLen at hm
  obtain ⟨ii, hi, hz0, hz1, hz2⟩ := info_parts info_int
  obtain ⟨w0, hmk, hown0, hgr0⟩ := run_make_own (P := Tryz.prog) w w.heap.size 35 3 ii (.int .i64 0) 1 Tryz.underlying35 hi hz0 hz1 .i64 .i64 T.length (by rw [hz2]; omega) (by unfold maxLen; omega) (Nat.le_refl _)
  have hb0 : Below w.heap.size w w0 := (Below.refl _ _).grown hgr0 (Nat.le_refl _) (fun k hk => by simp at hk)
  have HI : Hid (∀ P ∈ T, P.length ≤ maxLen) := Lib.hid fun P hP => by
    obtain ⟨i, hi, rfl⟩ := List.getElem_of_mem hP
    obtain ⟨b, o, _, _, hc⟩ := hR (by omega)
    obtain ⟨u, _, r⟩ := hc i hi
    exact (rd_sizes r).1
  have e_l := e_woven1
  go_enter Tryz.func79, Tryz.ntmps79
  go_wp2
  go_loopw [5, 13] (fun nx i wr => ∃ k : Nat, i = .int .i64 k ∧ k ≤ T.length ∧ wr.ownsRow w.heap.size 3 1 nx ((T.take k).map fun P => (P.length : Int) - 1).length (ic ((T.take k).map fun P => (P.length : Int) - 1)) ∧ Below w.heap.size w wr ∧ w.heap.size ≤ wr.heap.size) (fun _ i _ => T.length - (intOf i).toNat)
  case atStart => exact ⟨0, rfl, Nat.zero_le _, hown0, hb0, hb0.size⟩
  case round =>
    obtain ⟨k, rfl, hk, hown, hbel, hsz⟩ := hrel
    have hlen : ((T.take k).map fun P => (P.length : Int) - 1).length = k := by simp; omega
    by_cases hlt : k < T.length
    · obtain ⟨b, o, rfl, hbw, hc⟩ := hR (by omega)
      have ex := RowEl.st 1 StrEl.st w wr b _ _ (Kept.of_below hbel) hbw (hc k hlt)
      rw [Nat.mul_one] at ex
      have HT := Lib.hid (take_map_succ (fun P : List ByteArray => (P.length : Int) - 1) T k hlt)
      clear hc hR hmk hown0 hgr0 hb0
      generalize T[k] = x at *
      obtain ⟨u, e0, r0⟩ := ex
      have hag := Lib.hid (iLen1 u x wr r0)
      obtain ⟨p2, c2, rfl, hm2, -⟩ := r0.form
      generalize (x.length : Int) - 1 = fx at *
      generalize ((T.take k).map fun P => (P.length : Int) - 1) = done at *
      go_wp2_with (first
        | (go_at_call 80; refine hag.out.mono ?_; rintro e w1 ⟨rfl, hb1⟩; have hown1 := own_below hown hb1; have hbel1 := below_tr hbel hb1; have hsz1 := Nat.le_trans hsz hb1.size)
        | (at_builtin; refine wpList_append_own _ rfl (.tmp 17) (.tmp 21) 35 rfl w.heap.size 3 ii (.int .i64 0) 1 8 Tryz.underlying35 hi hz0 hz1 hz2 rfl (by decide) _ done.length (ic done) rfl (hown1.alloc _) ⟨w1.heap.size, 0, none⟩ 1 1 [.int .i64 fx] rfl rfl (new_cells _ _ _ _ rfl) (ic_one [fx]) (by unfold maxLen; omega) (by omega) (by simp; omega) ?_; intro v' w2 hown' hgrow _))
      have R := own_app hown1 hbel1 (Nat.le_refl _) hsz1 hgrow
      have O := own_i rfl rfl (l' := [fx]) rfl rfl hown'
      clear hown hown1 hown' hgrow hbel hbel1
      go_roundw
      case rel => exact ⟨k + 1, by go_num, by omega, by rw [HT.out]; exact O, R.1, R.2⟩
      case measure => simp [intOf]; omega
    · obtain rfl : k = T.length := by omega
      rw [List.take_length] at hown
      clear hR hmk hown0 hgr0 hb0
      go_wp2
      go_ret
      refine ⟨_, rfl, own_rd hown (by simp; unfold maxLen; omega) ?_, hbel⟩
      intro y hy
      obtain ⟨P, hP, rfl⟩ := List.mem_map.1 hy
      have := HI.out P hP
      unfold maxLen at this
      exact ⟨by omega, by omega⟩
end Go.Proofs.YtbehcmogndpkhaaGreatDoor
namespace Go.Proofs.YtbehcmogndpkhaaGreatDoor
set_option linter.unusedVariables false
set_option maxRecDepth 100000
open Go.ChangeShapes Go.WideShapes Go.ChangeAt Go.RowKit

/-- The visitor that gathers, over rows of texts. -/
def vL (L : List (List (List UInt8))) (s : List (List UInt8)) (a d : Nat) (_ : Int) : Bool × List (List UInt8) := (true, s ++ [(L[a]?.getD [])[d]?.getD []])
theorem vL_vPr (vt : Int → List UInt8) (l : List TyI) : vL (l.map (itemT vt)) = vPr vt l := by
  funext s a d n
  unfold vL vPr
  rw [List.getElem?_map]
  cases l[a]? <;> simp
/-- What is gathered so far, in the world. -/
structure WI (B bp : Nat) (wb W : World) (S : List (List UInt8)) : Prop where
  ex : ∃ vp, W.heap[bp]? = some (.cells #[vp] 36 (0, 0)) ∧ W.ownsRow B 9 1 vp (strs S).length (sc (strs S))
  bel : Below B wb W
  sz : B ≤ W.heap.size
set_option maxHeartbeats 4000000 in
theorem iWrite (L : List (List (List UInt8))) (vt : Value) (bp bt a d : Nat) (n : Int) (wb W : World) (S : List (List UInt8)) (hI : WI wb.heap.size bp wb W S) (hbp : wb.heap.size ≤ bp) (hbt : bt < wb.heap.size)
    (hct : wb.cell? ⟨bt, 0, none⟩ = some vt) (hR : RowRd 1 (RowEl 1 StrEl) wb vt (L.map strs)) (ha : a < L.length) (hd : d < L[a].length) (hS : S.length ≤ 4194304) :
    Calls Tryz.prog 81 #[.int .i64 a, .int .i64 d, .int .i64 n, .pointer (some ⟨bp, 0, none⟩), .pointer (some ⟨bt, 0, none⟩)] W fun e w' => e = .returned (.bool true) ∧ WI wb.heap.size bp wb w' (S ++ [L[a][d]]) := by
  obtain ⟨⟨vp, hh, ho⟩, hbel, hsz⟩ := hI
  obtain ⟨i0, hi, hz0, hz1, hz2⟩ := info_parts info_str'
  obtain ⟨p, cap, rfl, hm, hRf⟩ := (hR.kept (RowEl.st 1 StrEl.st) (Kept.of_below hbel)).form
  have ha' : a < (L.map strs).length := by simpa using ha
  obtain ⟨b, o, rfl, hb, hc⟩ := hRf (by omega)
  obtain ⟨u, eu, ru⟩ := hc a ha'
  have hrow : (L.map strs)[a] = strs L[a] := by simp
  rw [hrow] at ru
  rw [Nat.mul_one] at eu
  obtain ⟨p2, cap2, rfl, hm2, hRf2⟩ := ru.form
  have hd' : d < (strs L[a]).length := by rw [strs_length]; exact hd
  obtain ⟨b2, o2, rfl, hb2, hc2⟩ := hRf2 (by omega)
  obtain ⟨e3, i3⟩ := hc2 d hd'
  have hstr : (strs L[a])[d] = ⟨(L[a][d]).toArray⟩ := by simp [strs]
  rw [hstr] at e3
  rw [Nat.mul_one] at e3
  have ct : W.cell? ⟨bt, 0, none⟩ = some (.slice (some ⟨b, o, none⟩) (L.map strs).length cap) := (hbel.cell (p := ⟨bt, 0, none⟩) hbt).trans hct
  have hlt : bp < W.heap.size := (Array.getElem?_eq_some_iff.1 hh).1
  obtain ⟨c1, f1⟩ := pr_box_cell hh
  have HS := Lib.hid (show strs (S ++ [L[a][d]]) = strs S ++ [⟨(L[a][d]).toArray⟩] from by simp [strs])
  have hsl : (strs S).length ≤ 4194304 := by rw [strs_length]; exact hS
  have hia : (a : Int) < ((L.map strs).length : Int) := by omega
  have hid2 : (d : Int) < ((strs L[a]).length : Int) := by omega
  have hHH := Lib.hid hh
  unfold maxLen at hm hm2
  clear i3 hR hRf hRf2 hc hc2 ru hrow hstr hct hh ha' hd'
  generalize (L.map strs).length = la at *
  generalize (strs L[a]).length = ld at *
  generalize L[a][d] = t at *
  generalize (⟨t.toArray⟩ : ByteArray) = s at *
  go_enter Tryz.func81, Tryz.ntmps81
  go_wp2_with fail
  go_region_law (first | (refine step_append_own rfl (.tmp 9) (.tmp 17) 36 rfl wb.heap.size 9 i0 (.string ⟨#[]⟩) 1 16 Tryz.underlying36 hi hz0 hz1 hz2 rfl (by decide) _ (strs S).length (sc (strs S)) rfl (ho.drew.alloc _) ⟨W.heap.size, 0, none⟩ 1 1 [.string s] rfl rfl (new_cells _ _ _ _ rfl) (sc_one [s]) (by unfold maxLen; omega) (by omega) (by simp; omega) ?_; intro v' w2 hown' hgrow _; have hb3 := (hgrow.block bp (by simp; omega) (fun e => pr_own_ne ho hHH.out (by decide) e.symm)).trans (((Below.refl W.heap.size W).drew.alloc (by simp) _).block bp hlt); have hb4 := hb3.trans hHH.out; obtain ⟨y1, y2⟩ := pr_box_cell hb4; obtain ⟨g, gc, rfl, -, -, -, -, -⟩ := own_shape hown' (by omega)))
  all_goals
    go_wp2
    go_ret
    have O := own_strs rfl rfl (l' := [s]) rfl rfl hown'
    have R := own_app ho.drew hbel.drew (Nat.le_refl _) (by simpa using hsz) hgrow
    rw [← HS.out] at O
    refine ⟨rfl, ⟨_, pr_box_set hb4, pr_own_set O (pr_own_ne O hb4 (by decide))⟩, R.1.setCell (by show wb.heap.size ≤ bp; omega) _, by rw [setCell_size]; exact R.2⟩
end Go.Proofs.YtbehcmogndpkhaaGreatDoor
