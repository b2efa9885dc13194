/- Texts of this proof, merged: OkW1, OwnRow, OkW2, OkW3, PrS, Cat, PrI. -/
import Derived.Test.YtbehcmogndpkhaaGreatDoorM6
import Derived.Test.YtbehcmogndpkhaaGreatDoorM8
import Derived.WalkKit
import Derived.WalkSmall
import Derived.ProofKit
import Derived.OpenShut
import Derived.Lib.Hide
import Derived.Lib.SmallJoins
import Derived.StillTailTactics
import Derived.Shelf.Abstract
import Derived.Laws.EntriesVeiled
import Derived.Test.YtbehcmogndpkhaaGreatDoorM3
import Derived.Test.YtbehcmogndpkhaaGreatDoorM9
import Derived.Deep.QuietTactic
import Derived.BigQuiet
import Derived.Deep.RegionHeld3
import Derived.Deep.RegionWith
import Derived.Outline
import Derived.Test.YtbehcmogndpkhaaGreatDoorRows
namespace Go.Proofs.YtbehcmogndpkhaaGreatDoor
set_option linter.unusedVariables false
set_option maxRecDepth 100000
open Go.ChangeShapes Go.WideShapes Go.ChangeAt Go.RowKit

theorem iWalk {σ : Type} (V : σ → Nat → Nat → Int → Bool × σ) (J : σ → World → Prop) (g : Nat) (lb : Array Value) (eg : ∀ args w, (callFunc g args).run Tryz.prog w = .ok (.enter g args) w) (cs : List Int) (v : Value) (hl : cs.length ≤ 1048576)
    (hJ : ∀ s W, J s W → RowRd 1 IntEl W v cs)
    (hV : ∀ s W (a d : Nat) (n : Int) (h : a < cs.length), J s W → d ≤ cs[a].toNat → 0 ≤ n → n ≤ cs.length → Calls Tryz.prog g (#[.int .i64 a, .int .i64 d, .int .i64 n] ++ lb) W fun e w' => e = .returned (.bool (V s a d n).1) ∧ J (V s a d n).2 w') :
    ∀ (f : Nat) (s : σ) (a : Nat) (w : World) (hs : J s w) (ha : a ≤ cs.length) (hf : cs.length < a + f),
      Calls Tryz.prog 82 #[v, .int .i64 a, .func (.func g) #[] lb] w fun e w' => e = .returned (.int .i64 (walkS V cs f s a).1) ∧ J (walkS V cs f s a).2 w' := by
  intro f
  induction f with
  | zero => intro s a w hs ha hf; omega
  | succ f ih =>
    intro s a w hs ha hf
    obtain ⟨p, cap, rfl, hm, hR⟩ := (hJ s w hs).form
    by_cases hlt : a < cs.length
    · obtain ⟨bp, op, rfl, _, hcs⟩ := hR (by omega)
      have hci := (hcs a hlt).2
      have HB := Lib.hid (walkS_in V cs f s a hlt)
      have hge : ¬ (cs.length : Int) ≤ (a : Int) := by omega
      have hv0 := hV s w a 0 ((a : Int) + 1) hlt hs (Nat.zero_le _) (by omega) (by omega)
      obtain ⟨b, s1, hb⟩ : ∃ b s1, V s a 0 ((a : Int) + 1) = (b, s1) := ⟨_, _, rfl⟩
      rw [hb] at hv0
      have HW := Lib.hid hb
      clear hb hR hcs
      cases b
      · go_enter Tryz.func82, Tryz.ntmps82
        go_wp2_with (go_at_fn g; refine hv0.mono ?_; rintro e w1 ⟨rfl, hj1⟩)
        go_ret
        rw [HB.out, HW.out]
        exact ⟨rfl, hj1⟩
      · have HF := Lib.hid (show walkS V cs (f + 1) s a = iterS (walkS V cs f) (fun s d n => V s a d n) cs[a].toNat 0 ((a : Int) + 1) s1 from by rw [HB.out, HW.out]; rfl)
        have hrd : ∀ W, J s1 W → W.cell? ⟨bp, op + a, none⟩ = some (.int .i64 cs[a]) := by
          intro W hj
          obtain ⟨p', cap', e1, _, h2⟩ := (hJ s1 W hj).form
          cases e1
          obtain ⟨b, o, e2, _, h3⟩ := h2 (by omega)
          cases e2
          have := (h3 a hlt).1
          rw [Nat.mul_one] at this
          exact this
        have HV := Lib.hid fun s W d n hj hd h0 h1 => hV s W a d n hlt hj hd h0 h1
        clear HB HW
        generalize cs[a] = c at *
        obtain ⟨hc1, hc2⟩ := hci
        go_enter Tryz.func82, Tryz.ntmps82
        go_wp2_with (go_at_fn g; refine hv0.mono ?_; rintro e w1 ⟨rfl, hj1⟩; have hcell := hrd w1 hj1)
        go_loopw [7, 26] (fun nx i wr => ∃ (k m : Nat) (s' : σ), i = .int .i64 k ∧ nx = .int .i64 m ∧ k ≤ c.toNat ∧ a < m ∧ m ≤ cs.length ∧ J s' wr ∧ iterS (walkS V cs f) (fun s d n => V s a d n) (c.toNat - k) k m s' = iterS (walkS V cs f) (fun s d n => V s a d n) c.toNat 0 ((a : Int) + 1) s1) (fun _ i _ => c.toNat - (intOf i).toNat)
        case atStart => exact ⟨0, a + 1, s1, rfl, by go_num, Nat.zero_le _, by omega, by omega, hj1, by simp⟩
        case round =>
          obtain ⟨k, m, s', rfl, rfl, hk, ham, hml, hj, hit⟩ := hrel
          have HI := Lib.hid hit
          clear hit hcell hrd hv0
          by_cases hlt2 : (k : Int) < c
          · have hg := walkS_gt V cs f s' (m : Int) (by omega)
            have ihc := ih s' m wr hj hml (by omega)
            obtain ⟨r, s2, hr⟩ : ∃ r s2, walkS V cs f s' (m : Int) = (r, s2) := ⟨_, _, rfl⟩
            rw [hr] at ihc hg
            simp only at ihc hg
            obtain ⟨t, ht⟩ : ∃ t, c.toNat - k = t + 1 := ⟨c.toNat - k - 1, by omega⟩
            rw [ht] at HI
            have hkc : k + 1 ≤ c.toNat := by omega
            by_cases hneg : r < 0
            · have HN := Lib.hid (iterS_neg (V := fun s d n => V s a d n) (t := t) (d := k) hr hneg)
              have HR := Lib.hid hr
              clear hr
              go_wp2_with (go_at_call 82; refine ihc.mono ?_; rintro e w2 ⟨rfl, hj2⟩)
              go_ret
              rw [HF.out, ← HI.out, HN.out]
              exact ⟨rfl, hj2⟩
            · obtain ⟨n, rfl⟩ : ∃ n : Nat, r = n := ⟨r.toNat, by omega⟩
              have hv1 := fun W hj' => Lib.hid (HV.out s2 W (k + 1) (n : Int) hj' hkc (by omega) (by omega))
              obtain ⟨b, s3, hb⟩ : ∃ b s3, V s2 a (k + 1) (n : Int) = (b, s3) := ⟨_, _, rfl⟩
              rw [hb] at hv1
              have hnd : decide ((n : Int) < 0) = false := by simp
              cases b
              · have HN := Lib.hid (iterS_no (V := fun s d n => V s a d n) (t := t) (d := k) hr hneg hb)
                have HR := Lib.hid hr
                clear hr hb
                go_wp2_with (first
                  | (go_at_call 82; refine ihc.mono ?_; rintro e w2 ⟨rfl, hj2⟩; have hv2 := (hv1 w2 hj2).out)
                  | (go_at_fn g; refine hv2.mono ?_; rintro e w3 ⟨rfl, hj3⟩))
                go_ret
                rw [HF.out, ← HI.out, HN.out]
                exact ⟨rfl, hj3⟩
              · have HN := Lib.hid (iterS_yes (V := fun s d n => V s a d n) (t := t) (d := k) hr hneg hb)
                have HR := Lib.hid hr
                clear hr hb
                go_wp2_with (first
                  | (go_at_call 82; refine ihc.mono ?_; rintro e w2 ⟨rfl, hj2⟩; have hv2 := (hv1 w2 hj2).out)
                  | (go_at_fn g; refine hv2.mono ?_; rintro e w3 ⟨rfl, hj3⟩))
                go_roundw
                case rel => exact ⟨k + 1, n, s3, by go_num, rfl, by omega, by omega, by omega, hj3, by rw [← HI.out, HN.out, show c.toNat - (k + 1) = t from by omega]⟩
                case measure => simp [intOf]; omega
          · go_wp2
            go_ret
            rw [HF.out, ← HI.out, show c.toNat - k = 0 from by omega]
            exact ⟨rfl, hj⟩
    · have HB := Lib.hid (walkS_out V cs (f + 1) s a (by omega))
      have hge : (cs.length : Int) ≤ (a : Int) := by omega
      clear hR
      go_enter Tryz.func82, Tryz.ntmps82
      go_wp2
      go_ret
      rw [HB.out]
      exact ⟨rfl, hs⟩
end Go.Proofs.YtbehcmogndpkhaaGreatDoor
namespace Go.Proofs.YtbehcmogndpkhaaGreatDoor
set_option linter.unusedVariables false
open Go.ChangeShapes Go.WideShapes Go.ChangeAt Go.RowKit

/-- Cells of numbers. -/
def ic (l : List Int) : List Value := l.map (Value.int .i64)
theorem ic_length (l : List Int) : (ic l).length = l.length := by simp [ic]
theorem ic_app (l m : List Int) : ic (l ++ m) = ic l ++ ic m := by simp [ic]
theorem ic_one (l : List Int) : ∀ u ∈ ic l, u.oneCell' = true := by
  intro u hu; simp only [ic, List.mem_map] at hu; obtain ⟨b, _, rfl⟩ := hu; rfl
theorem ic_get (l : List Int) (j : Nat) (h : j < l.length) : (ic l)[j]? = some (.int .i64 l[j]) := by simp [ic, h]
/-- What is owned and flat: its element's cells tell its elements. -/
theorem own_flat {α : Type} {B e n : Nat} {R : ElRd α} {w : World} {v : Value} {l : List α} {xs : List Value} (hn : 0 < n) (h : w.ownsRow B e n v l.length xs)
    (hR : ∀ g i (hi : i < l.length), (∀ j, j < n → w.cell? ⟨g, i * n + j, none⟩ = xs[i * n + j]?) → R w g (i * n) l[i]) :
    ∃ F, RowOwn n (Flat R) w v l F ∧ (∀ g ∈ F, B ≤ g) ∧ F.Nodup := by
  by_cases h0 : 0 < l.length
  · have h' := h
    obtain ⟨hx, ⟨_, h1⟩ | ⟨g, cap, cur, rfl, h1, h2, h3, h4, h5, h6⟩⟩ := h
    · omega
    · refine ⟨[g], .inr ⟨g, cap, List.replicate l.length [], rfl, ⟨Nat.le_trans h3 h4, h3⟩, (h'.lt g rfl).2, fun i => h'.frozenAt i, h0, by simp, ?_, fun i hi hi' => ?_⟩, fun k hk => by simp at hk; subst hk; exact h1, by simp⟩
      · have : (List.replicate l.length ([] : List Nat)).flatten = [] := by simp
        rw [this]
      · rw [List.getElem_replicate]
        refine ⟨rfl, hR g i hi fun j hj => h'.cellAt (i * n + j) ?_⟩
        have := Nat.mul_le_mul_right n (show i + 1 ≤ l.length by omega)
        rw [Nat.succ_mul] at this
        omega
  · obtain rfl : l = [] := List.eq_nil_of_length_eq_zero (by omega)
    obtain ⟨hx, ⟨rfl, _⟩ | ⟨g, cap, cur, rfl, _⟩⟩ := h
    · exact ⟨[], .inl ⟨rfl, rfl, _, _, rfl⟩, fun g hg => by simp at hg, List.nodup_nil⟩
    · exact ⟨[], .inl ⟨rfl, rfl, _, _, rfl⟩, fun g hg => by simp at hg, List.nodup_nil⟩
theorem own_ints {B e : Nat} {w : World} {v : Value} {l : List Int} (h : w.ownsRow B e 1 v l.length (ic l)) (hI : ∀ x ∈ l, I64 x) : ∃ F, RowOwn 1 (Flat IntEl) w v l F ∧ (∀ g ∈ F, B ≤ g) ∧ F.Nodup := by
  refine own_flat (by omega) h fun g i hi hc => ?_
  have := hc 0 (by omega)
  simp only [Nat.mul_one, Nat.add_zero] at this ⊢
  exact ⟨by rw [this]; exact ic_get l i hi, hI _ (List.getElem_mem hi)⟩
theorem own_strs' {B e : Nat} {w : World} {v : Value} {l : List ByteArray} (h : w.ownsRow B e 1 v l.length (sc l)) (hI : ∀ x ∈ l, x.size ≤ maxLen) : ∃ F, RowOwn 1 (Flat StrEl) w v l F ∧ (∀ g ∈ F, B ≤ g) ∧ F.Nodup := by
  refine own_flat (by omega) h fun g i hi hc => ?_
  have := hc 0 (by omega)
  simp only [Nat.mul_one, Nat.add_zero] at this ⊢
  exact ⟨by rw [this]; simp [sc, hi], hI _ (List.getElem_mem hi)⟩
/-- Cells of a type's items. -/
def tyC (l : List TyI) : List Value := l.flatMap fun x => [.int .i64 x.var, .string x.name, .int .i64 x.arity]
theorem flat_get {α : Type} (f : α → List Value) (n : Nat) (hf : ∀ x, (f x).length = n) (l : List α) (i j : Nat) (hi : i < l.length) (hj : j < n) : (l.flatMap f)[i * n + j]? = (f l[i])[j]? := by
  induction l generalizing i with
  | nil => simp at hi
  | cons x l ih =>
    rw [List.flatMap_cons]
    cases i with
    | zero => rw [Nat.zero_mul, Nat.zero_add, List.getElem?_append_left (by rw [hf]; exact hj)]; rfl
    | succ i =>
      rw [List.getElem?_append_right (by rw [hf, Nat.succ_mul]; omega), hf]
      rw [show (i + 1) * n + j - n = i * n + j from by rw [Nat.succ_mul]; omega]
      exact ih i (by simpa using hi)
theorem own_items {B e : Nat} {w : World} {v : Value} {l : List TyI} (h : w.ownsRow B e 3 v l.length (tyC l)) (hI : ∀ x ∈ l, I64 x.var ∧ x.name.size ≤ maxLen ∧ I64 x.arity) : ∃ F, RowOwn 3 TyIOwn w v l F ∧ (∀ g ∈ F, B ≤ g) ∧ F.Nodup := by
  refine own_flat (by omega) h fun g i hi hc => ?_
  have hg := fun j hj => (hc j hj).trans (flat_get (fun x : TyI => [Value.int .i64 x.var, .string x.name, .int .i64 x.arity]) 3 (fun _ => rfl) l i j hi hj)
  obtain ⟨i0, i1, i2⟩ := hI _ (List.getElem_mem hi)
  exact ⟨⟨hg 0 (by omega), i0⟩, ⟨hg 1 (by omega), i1⟩, ⟨hg 2 (by omega), i2⟩⟩
end Go.Proofs.YtbehcmogndpkhaaGreatDoor
namespace Go.Proofs.YtbehcmogndpkhaaGreatDoor
set_option linter.unusedVariables false
set_option maxRecDepth 100000
open Go.ChangeShapes Go.WideShapes Go.ChangeAt Go.RowKit

theorem iNameOkB (s : ByteArray) (w : World) (hs : s.size ≤ maxLen) :
    Calls Tryz.prog 135 #[.string s] w fun e w' => e = .returned (.bool (nameB s)) ∧ Below w.heap.size w w' := (iNameOk s w hs).mono fun e w' ⟨h, h'⟩ => ⟨h, by subst h'; exact Below.refl _ _⟩
/-- Numbers that a call made, read. -/
theorem own_rd {B e : Nat} {w : World} {v : Value} {l : List Int} (h : w.ownsRow B e 1 v l.length (ic l)) (hm : l.length ≤ maxLen) (hI : ∀ x ∈ l, I64 x) : RowRd 1 IntEl w v l := by
  by_cases h0 : 0 < l.length
  · obtain ⟨g, cap, rfl, h1, h2, h3, h4, _⟩ := own_shape h h0
    refine .inr ⟨g, 0, cap, rfl, ⟨hm, h3⟩, h2, h0, fun i hi => ?_⟩
    have := h4 i hi
    rw [ic_get l i hi] at this
    rw [Nat.mul_one, Nat.zero_add]
    exact ⟨this, hI _ (List.getElem_mem hi)⟩
  · obtain rfl : l = [] := List.eq_nil_of_length_eq_zero (by omega)
    obtain ⟨hx, ⟨rfl, _⟩ | ⟨g, cap, cur, rfl, _⟩⟩ := h
    · exact .inl ⟨rfl, _, _, rfl⟩
    · exact .inl ⟨rfl, _, _, rfl⟩
theorem iItem (x : TyI) (w : World) (hs : x.name.size ≤ maxLen) :
    Calls Tryz.prog 222 #[.agg #[.int .i64 x.var, .string x.name, .int .i64 x.arity]] w fun e w' => e = .returned (.bool (itemB x)) ∧ Below w.heap.size w w' := by
  by_cases hn : x.name.toList = []
  · have h1 : x.name.toList.isEmpty = true := by simp [hn]
    have HB := Lib.hid (show itemB x = (decide (0 ≤ x.var) && (decide (x.var ≤ 9999) && decide (x.arity = 0))) from by rw [itemB, if_pos hn])
    go_enter Tryz.func222, Tryz.ntmps222
    go_wp2
    all_goals
      go_ret
      refine ⟨ret_bool ?_, Joins.below_alloc1 w _⟩
      rw [HB.out]
      first | (rw [Bool.eq_iff_iff]; simp; omega) | (simp; omega)
  · have h1 : x.name.toList.isEmpty = false := by simpa using hn
    by_cases hv : x.var = 0
    · have hv1 : (x.var == 0) = true := by simpa using hv
      have hv2 : (x.var != 0) = false := by simpa using hv
      by_cases ha : x.name.toList = [45, 62] ∨ x.name.toList = [42]
      · have HB := Lib.hid (show itemB x = decide (x.arity = 2) from by rw [itemB, if_neg hn, if_pos hv, if_pos ha])
        clear hv
        rcases ha with ha | ha
        all_goals
          go_enter Tryz.func222, Tryz.ntmps222
          go_wp2
          all_goals
            go_ret
            refine ⟨ret_bool ?_, Joins.below_alloc1 w _⟩
            rw [HB.out]
            rw [Bool.eq_iff_iff]; simp
      · obtain ⟨ha1, ha2⟩ := not_or.1 ha
        have hb1 : (x.name.toList == [45, 62]) = false := by simpa using ha1
        have hb2 : (x.name.toList == [42]) = false := by simpa using ha2
        by_cases hr : x.name.toList = [114, 101, 102]
        · have HB := Lib.hid (show itemB x = decide (x.arity = 1) from by rw [itemB, if_neg hn, if_pos hv, if_neg ha, if_pos hr])
          clear hv ha
          go_enter Tryz.func222, Tryz.ntmps222
          go_wp2
          go_ret
          refine ⟨ret_bool ?_, Joins.below_alloc1 w _⟩
          rw [HB.out]
          rw [Bool.eq_iff_iff]; simp
        · have hr1 : (x.name.toList == [114, 101, 102]) = false := by simpa using hr
          have HB := Lib.hid (show itemB x = (nameB x.name && (decide (0 ≤ x.arity) && decide (x.arity ≤ 2))) from by rw [itemB, if_neg hn, if_pos hv, if_neg ha, if_neg hr])
          clear hv ha hr
          go_enter Tryz.func222, Tryz.ntmps222
          go_wp2_with fail
          refine (iNameOkB _ _ hs).mono ?_
          rintro e w1 ⟨rfl, hb⟩
          obtain ⟨hc, hf⟩ := bcell hb
          generalize nameB x.name = nb at *
          cases nb
          all_goals
            go_wp2
            all_goals
              go_ret
              refine ⟨ret_bool ?_, below_tr (Joins.below_alloc1 w _) hb⟩
              rw [HB.out]
              first | (simp; done) | (rw [Bool.eq_iff_iff]; simp; omega) | (simp; omega)
    · have hv2 : (x.var != 0) = true := by simpa using hv
      have HB := Lib.hid (show itemB x = false from by rw [itemB, if_neg hn, if_neg hv])
      clear hv
      go_enter Tryz.func222, Tryz.ntmps222
      go_wp2
      go_ret
      exact ⟨ret_bool HB.out.symm, Joins.below_alloc1 w _⟩
theorem iArity (x : TyI) (w : World) :
    Calls Tryz.prog 248 #[.agg #[.int .i64 x.var, .string x.name, .int .i64 x.arity]] w fun e w' => e = .returned (.int .i64 x.arity) ∧ Below w.heap.size w w' := by
  go_enter Tryz.func248, Tryz.ntmps248
  go_wp2
  go_ret
  exact ⟨rfl, Joins.below_alloc1 w _⟩
theorem info_int : (Tryz.prog.info? 3).map (fun i => (i.zero, i.size, i.bytes)) = some (some (.int .i64 0), 1, 8) := by kernel_rfl
theorem e_iArity : ∀ args w, (callFunc 248 args).run Tryz.prog w = .ok (.enter 248 args) w := enters_of Tryz.func248 (by kernel_rfl) rfl
theorem take_map_succ {α β : Type} (f : α → β) (l : List α) (k : Nat) (h : k < l.length) : (l.take (k + 1)).map f = (l.take k).map f ++ [f l[k]] := by
  rw [List.take_succ_eq_append_getElem h, List.map_append]; rfl
theorem own_i {B e m n : Nat} {w1 : World} {v' : Value} {l l' : List Int} {xs news : List Value} (hn : n = l.length) (hxs : xs = ic l) (hnews : news = ic l') (hm : m = l'.length) (h : w1.ownsRow B e 1 v' (n + m) (xs ++ news)) :
    w1.ownsRow B e 1 v' (l ++ l').length (ic (l ++ l')) := by
  subst hn hxs hnews hm; rw [ic_app, List.length_append]; exact h
theorem iMapTy (l : List TyI) (v : Value) (w : World) (hR : RowRd 3 TyIEl w v l) (hl : l.length ≤ 1048576) :
    Calls Tryz.prog 247 #[v, .func (.func 248) #[] #[]] w fun e w' => ∃ v', e = .returned v' ∧ RowRd 1 IntEl w' v' (l.map TyI.arity) ∧ Below w.heap.size w w' := by
  obtain ⟨p, cap, rfl, hm, hR⟩ := hR.form
  unfold maxLen at hm
  obtain ⟨i0, hi, hz0, hz1, hz2⟩ := info_parts info_int
  obtain ⟨w0, hmk, hown0, hgr0⟩ := run_make_own (P := Tryz.prog) w w.heap.size 35 3 i0 (.int .i64 0) 1 Tryz.underlying35 hi hz0 hz1 .i64 .i64 l.length (by rw [hz2]; omega) (by unfold maxLen; omega) (Nat.le_refl _)
  have hb0 : Below w.heap.size w w0 := (Below.refl _ _).grown hgr0 (Nat.le_refl _) (fun k hk => by simp at hk)
  have hI : ∀ x ∈ l.map TyI.arity, I64 x := by
    intro x hx
    obtain ⟨y, hy, rfl⟩ := List.mem_map.1 hx
    obtain ⟨i, hil, rfl⟩ := List.getElem_of_mem hy
    obtain ⟨b, o, _, _, h⟩ := hR (by omega)
    exact (h i hil).2.2.2
  go_enter Tryz.func247, Tryz.ntmps247
  go_wp2
  go_loopw [5, 13] (fun nx i wr => ∃ k : Nat, i = .int .i64 k ∧ k ≤ l.length ∧ wr.ownsRow w.heap.size 3 1 nx ((l.take k).map TyI.arity).length (ic ((l.take k).map TyI.arity)) ∧ Below w.heap.size w wr ∧ w.heap.size ≤ wr.heap.size) (fun _ i _ => l.length - (intOf i).toNat)
  case atStart => exact ⟨0, rfl, Nat.zero_le _, hown0, hb0, hb0.size⟩
  case round =>
    obtain ⟨k, rfl, hk, hown, hbel, hsz⟩ := hrel
    have hlen : ((l.take k).map TyI.arity).length = k := by simp; omega
    by_cases hlt : k < l.length
    · obtain ⟨b, o, rfl, hbw, hc⟩ := hR (by omega)
      have ex := TyIEl.st w wr b _ _ (Kept.of_below hbel) hbw (hc k hlt)
      have HT := Lib.hid (take_map_succ TyI.arity l k hlt)
      clear hc hR hmk hown0 hgr0 hb0
      generalize l[k] = x at *
      obtain ⟨⟨e0, i0'⟩, ⟨e1, i1⟩, ⟨e2, i2⟩⟩ := ex
      have hag := iArity x (wr.alloc (.cells #[.int .i64 x.var, .string x.name, .int .i64 x.arity] 117))
      go_wp2_with (first
        | (go_at_call 248; refine hag.mono ?_; rintro e w1 ⟨rfl, hb⟩; have hb1 := below_tr (Joins.below_alloc1 wr _) hb; have hown1 := own_below hown hb1; have hbel1 := below_tr hbel hb1; have hsz1 := Nat.le_trans hsz hb1.size)
        | (at_builtin; refine wpList_append_own _ rfl (.tmp 17) (.tmp 21) 35 rfl w.heap.size 3 i0 (.int .i64 0) 1 8 Tryz.underlying35 hi hz0 hz1 hz2 rfl (by decide) _ ((l.take k).map TyI.arity).length (ic ((l.take k).map TyI.arity)) rfl (hown1.alloc _) ⟨w1.heap.size, 0, none⟩ 1 1 [.int .i64 x.arity] rfl rfl (new_cells _ _ _ _ rfl) (ic_one [x.arity]) (by unfold maxLen; omega) (by omega) (by simp; omega) ?_; intro v' w2 hown' hgrow _))
      have R := own_app hown1 hbel1 (Nat.le_refl _) hsz1 hgrow
      have O := own_i rfl rfl (l' := [x.arity]) rfl rfl hown'
      clear hown hown1 hown' hgrow hbel hbel1
      go_roundw
      case rel => exact ⟨k + 1, by go_num, by omega, by rw [HT.out]; exact O, R.1, R.2⟩
      case measure => simp [intOf]; omega
    · obtain rfl : k = l.length := by omega
      rw [List.take_length] at hown
      clear hR hmk hown0 hgr0 hb0
      go_wp2
      go_ret
      exact ⟨_, rfl, own_rd hown (by simp; unfold maxLen; omega) hI, hbel⟩
theorem iArities (l : List TyI) (v : Value) (w : World) (hR : RowRd 3 TyIEl w v l) (hl : l.length ≤ 1048576) :
    Calls Tryz.prog 223 #[.agg #[v]] w fun e w' => ∃ v', e = .returned v' ∧ RowRd 1 IntEl w' v' (l.map TyI.arity) ∧ Below w.heap.size w w' := by
  have hM := iMapTy l v (w.alloc (.cells #[v] 55)) (hR.kept TyIEl.st (Kept.alloc _ _)) hl
  obtain ⟨p, cap, rfl, hm, _⟩ := hR.form
  go_enter Tryz.func223, Tryz.ntmps223
  go_wp2_with (go_at_call 247; refine hM.mono ?_; rintro e w1 ⟨v', rfl, hv', hb⟩)
  go_ret
  exact ⟨_, rfl, hv', below_tr (Joins.below_alloc1 w _) hb⟩
end Go.Proofs.YtbehcmogndpkhaaGreatDoor
namespace Go.Proofs.YtbehcmogndpkhaaGreatDoor
set_option linter.unusedVariables false
set_option maxRecDepth 100000
open Go.ChangeShapes Go.WideShapes Go.ChangeAt Go.RowKit

theorem iRightTy (l : List TyI) (vt : Value) (bt a d : Nat) (n : Int) (w : World) (hc : w.cell? ⟨bt, 0, none⟩ = some vt) (hR : RowRd 3 TyIEl w vt l) (ha : a < l.length) (hd : d ≤ 9223372036854775807) :
    Calls Tryz.prog 221 #[.int .i64 a, .int .i64 d, .int .i64 n, .pointer (some ⟨bt, 0, none⟩)] w fun e w' => e = .returned (.bool (vTy l () a d n).1) ∧ Below w.heap.size w w' := by
  obtain ⟨p, cap, rfl, hm, hR⟩ := hR.form
  unfold maxLen at hm
  by_cases h0 : d = 0
  · subst h0
    have HB := Lib.hid (show (vTy l () a 0 n).1 = itemB l[a] from by simp [vTy, List.getElem?_eq_getElem ha])
    obtain ⟨b, o, rfl, hbw, hcs⟩ := hR (by omega)
    obtain ⟨⟨e0, i0⟩, ⟨e1, i1⟩, ⟨e2, i2⟩⟩ := hcs a ha
    clear hcs hR
    generalize l[a] = x at *
    have hI := iItem x w i1
    go_enter Tryz.func221, Tryz.ntmps221
    go_wp2_with (go_at_call 222; refine hI.mono ?_; rintro e w1 ⟨rfl, hb⟩)
    go_ret
    exact ⟨ret_bool HB.out.symm, hb⟩
  · have HB := Lib.hid (show (vTy l () a d n).1 = true from by simp [vTy]; left; omega)
    have hd1 : (0 : Int) < (d : Int) := by omega
    clear hR
    go_enter Tryz.func221, Tryz.ntmps221
    go_wp2
    go_ret
    exact ⟨ret_bool HB.out.symm, Below.refl _ _⟩
theorem e_iRightTy : ∀ args w, (callFunc 221 args).run Tryz.prog w = .ok (.enter 221 args) w := enters_of Tryz.func221 (by kernel_rfl) rfl
theorem iWalkTy (l : List TyI) (v vt : Value) (bt : Nat) (w : World) (hc : w.cell? ⟨bt, 0, none⟩ = some vt) (hbt : bt < w.heap.size) (hR : RowRd 3 TyIEl w vt l) (hv : RowRd 1 IntEl w v (l.map TyI.arity)) (hl : l.length ≤ 1048576) :
    Calls Tryz.prog 82 #[v, .int .i64 0, .func (.func 221) #[] #[.pointer (some ⟨bt, 0, none⟩)]] w fun e w' => e = .returned (.int .i64 (walkS (vTy l) (l.map TyI.arity) (l.length + 1) () 0).1) ∧ Below w.heap.size w w' := by
  refine iWalk (vTy l) (fun _ W => Below w.heap.size w W) 221 #[.pointer (some ⟨bt, 0, none⟩)] e_iRightTy (l.map TyI.arity) v (by simpa using hl) (fun _ W hW => hv.kept IntEl.st (Kept.of_below hW)) ?_ (l.length + 1) () 0 w (Below.refl _ _) (Nat.zero_le _) (by simp)
  intro s W a d n h hW hd h0 h1
  have hci : ((l.map TyI.arity)[a]).toNat ≤ 9223372036854775807 := by
    obtain ⟨p, cap, _, _, h2⟩ := hv.form
    obtain ⟨b, o, _, _, h3⟩ := h2 (by omega)
    have := (h3 a h).2.2
    omega
  exact (iRightTy l vt bt a d n W ((hW.cell (p := ⟨bt, 0, none⟩) hbt).trans hc) (hR.kept TyIEl.st (Kept.of_below hW)) (by simpa using h) (Nat.le_trans hd hci)).mono fun e w' ⟨h1, h2⟩ => ⟨h1, below_tr hW h2⟩
theorem iTyOk (l : List TyI) (v : Value) (w : World) (hR : RowRd 3 TyIEl w v l) :
    Calls Tryz.prog 186 #[.agg #[v]] w fun e w' => e = .returned (.bool (tyOkB l)) ∧ Below w.heap.size w w' := by
  have hR0 := hR
  obtain ⟨p, cap, rfl, hm, hR⟩ := hR.form
  unfold maxLen at hm
  by_cases h0 : 200 < (l.length : Int)
  · have HB := Lib.hid (show tyOkB l = false from by simp [tyOkB]; omega)
    clear hR
    go_enter Tryz.func186, Tryz.ntmps186
    go_wp2
    go_ret
    exact ⟨ret_bool HB.out.symm, Joins.below_alloc1 w _⟩
  · have hlb : decide (200 < (l.length : Int)) = false := by simp; omega
    have HB := Lib.hid (ty_ok l (by omega))
    clear hR
    have HA := fun W (hK : Kept w W) => Lib.hid (iArities l _ W (hR0.kept TyIEl.st hK) (by omega))
    have HW := fun v' W (hK : Kept w W) (hc : W.cell? ⟨w.heap.size, 0, none⟩ = some (.slice p l.length cap)) (hlt : w.heap.size < W.heap.size) (hv : RowRd 1 IntEl W v' (l.map TyI.arity)) => Lib.hid (iWalkTy l v' _ w.heap.size W hc hlt (hR0.kept TyIEl.st hK) hv (by omega))
    generalize (walkS (vTy l) (l.map TyI.arity) (l.length + 1) () 0).1 = r at *
    have c0 : (w.alloc (.cells #[.slice p l.length cap] 55)).cell? ⟨w.heap.size, 0, none⟩ = some (.slice p l.length cap) := by simp
    have K0 : Kept w (w.alloc (.cells #[.slice p l.length cap] 55)) := Kept.alloc _ _
    have B0 : Below w.heap.size w (w.alloc (.cells #[.slice p l.length cap] 55)) := Joins.below_alloc1 w _
    have z0 : w.heap.size < (w.alloc (.cells #[.slice p l.length cap] 55)).heap.size := by simp
    go_enter Tryz.func186, Tryz.ntmps186
    go_wp2_with fail
    clear hR hR0
    generalize w.alloc (.cells #[.slice p l.length cap] 55) = wb at *
    go_region_held3 (fun w' => w'.cell? ⟨w.heap.size, 0, none⟩ = some (.slice p l.length cap) ∧ Kept wb w')
      (first | exact ⟨c0, Kept.refl _⟩ | exact ⟨c0, Kept.drew _⟩ | exact ⟨(hb1.cell (p := ⟨w.heap.size, 0, none⟩) z0).trans c0, (Kept.drew _).trans (Kept.of_below hb1)⟩ | exact ⟨(hb2.cell (p := ⟨w.heap.size, 0, none⟩) (Nat.lt_of_lt_of_le z0 hb1.size)).trans ((hb1.cell (p := ⟨w.heap.size, 0, none⟩) z0).trans c0), ((Kept.drew _).trans (Kept.of_below hb1)).trans (Kept.of_below hb2)⟩)
      (first | (go_at_call 223; refine (HA _ (K0.trans (by first | exact Kept.drew _ | exact Kept.refl _))).out.mono ?_; rintro e w1 ⟨v1, rfl, hv1, hb1⟩) | (go_at_call 82; refine (HW v1 _ ((K0.trans (Kept.drew _)).trans (Kept.of_below hb1)) ((hb1.cell (p := ⟨w.heap.size, 0, none⟩) z0).trans c0) (Nat.lt_of_lt_of_le z0 hb1.size) hv1).out.mono ?_; rintro e w2 ⟨rfl, hb2⟩))
    go_wp2
    go_ret
    refine ⟨ret_bool ?_, B0.trans ((Below.refl _ _).drew.trans (hb1.trans (hb2.mono hb1.size)) |>.mono B0.size)⟩
    rw [HB.out, Bool.eq_iff_iff]; simp
theorem iTyOkC (l : List TyI) (v : Value) (w : World) (hR : RowRd 3 TyIEl w v l) (hz : bTy l ≤ 1048576) :
    Calls Tryz.prog 186 #[.agg #[v]] w fun e w' => e = .returned (.bool (tyOkB l)) ∧ Below w.heap.size w w' := iTyOk l v w hR
end Go.Proofs.YtbehcmogndpkhaaGreatDoor
namespace Go.Proofs.YtbehcmogndpkhaaGreatDoor
set_option linter.unusedVariables false
set_option maxRecDepth 100000
open Go.ChangeShapes Go.WideShapes Go.ChangeAt Go.RowKit

/-- The text of a variable. -/
def varL (v : Int) : List UInt8 := if 25 < v then [39, 122] ++ numL v else [39, UInt8.ofNat (97 + v.toNat)]
theorem numL_len (v : Int) (h0 : 0 ≤ v) (h1 : v ≤ 9999) : (numL v).length ≤ 20 := by
  unfold numL Lib.itoa
  split
  · rw [if_neg (by omega)]; exact digits_len _ (by omega)
  · simp
theorem varL_len (v : Int) (h0 : 0 ≤ v) (h1 : v ≤ 9999) : (varL v).length ≤ 22 := by
  unfold varL
  split
  · have := numL_len v h0 h1; simp; omega
  · simp
theorem sVar (v : Int) (w : World) (h0 : 0 ≤ v) (h1 : v ≤ 9999) :
    Calls Tryz.prog 53 #[.int .i64 v] w fun e w' => e = .returned (.string ⟨(varL v).toArray⟩) ∧ Below w.heap.size w w' := by
  by_cases hv : 25 < v
  · have HB := Lib.hid (show varL v = [39, 122] ++ numL v from by rw [varL, if_pos hv])
    have hN := fun W => sNumText v W (by omega)
    have hl := numL_len v h0 h1
    have hl2 : 2 + (numL v).length ≤ 9223372036854775807 := by omega
    go_enter Tryz.func53, Tryz.ntmps53
    go_wp2_with (go_at_call 55; refine (hN _).mono ?_; rintro e w1 ⟨rfl, hb⟩)
    go_ret
    exact ⟨by rw [HB.out]; exact ret_str (str_app [39, 122] _), hb⟩
  · have HB := Lib.hid (show varL v = [39] ++ [UInt8.ofNat (97 + v.toNat)] from by rw [varL, if_neg hv]; rfl)
    obtain ⟨m, rfl⟩ : ∃ m : Nat, v = m := ⟨v.toNat, by omega⟩
    have hm : m ≤ 25 := by omega
    have hcv := fun (W : World) (n : Nat) (hc : W.cell? ⟨n, 0, none⟩ = some (.int .u8 (97 + (m : Int)))) => digit_of _ W n hc (97 + m) (by omega) (by omega) (by omega)
    have hw : IntKind.i64.wrap (97 + (m : Int)) = 97 + (m : Int) := IntWalk.i64_in _ (by omega)
    have hw2 : IntKind.u8.wrap (97 + (m : Int)) = 97 + (m : Int) := IntWalk.u8_in _ (by omega)
    clear h0 h1
    go_enter Tryz.func53, Tryz.ntmps53
    go_wp2
    go_ret
    exact ⟨by rw [HB.out]; rw [Int.toNat_natCast, UInt8.ofNat_add]; exact ret_str (str_app [39] [_]), (Below.refl _ _).alloc (Nat.le_refl _) _⟩
theorem prTy_len (l : List TyI) (hall : ∀ x ∈ l, itemB x = true) (f : Nat) (a : Int) (h0 : 0 ≤ a) (h : 0 ≤ endF f l a) : ((prTy varL f l a).length : Int) ≤ 40 * (endF f l a - a) := by
  obtain ⟨P, _, h1, h2, _⟩ := pr_walk varL varL_len l hall f a [] h0 h
  rw [← h1]; exact h2
theorem sTyText (l : List TyI) (hall : ∀ x ∈ l, itemB x = true) (hl : l.length ≤ 200) : ∀ (f : Nat) (v : Value) (a : Int) (w : World) (hR : RowRd 3 TyIEl w v l) (ha : 0 ≤ a) (he : 0 ≤ endF f l a) (hf : (l.length : Int) < a + f),
    Calls Tryz.prog 22 #[.agg #[v], .int .i64 a] w fun e w' => e = .returned (.string ⟨(prTy varL f l a).toArray⟩) ∧ Below w.heap.size w w' := by
  intro f
  induction f with
  | zero =>
    intro v a w hR ha he hf
    simp [endF] at he
  | succ f ih =>
    intro v a w hR ha he hf
    have hR0 := hR
    obtain ⟨p, cap, rfl, hm, hR⟩ := hR.form
    obtain ⟨n, rfl⟩ : ∃ n : Nat, a = n := ⟨a.toNat, by omega⟩
    have hn : n < l.length := by
      by_cases hc : n < l.length
      · exact hc
      · rw [endF_out _ _ _ (.inr (by omega))] at he; omega
    obtain ⟨b, o, rfl, hbw, hc⟩ := hR (by omega)
    have ex := hc n hn
    have hx := hall l[n] (List.getElem_mem hn)
    have har := item_arity hx
    have hnm := item_name hx
    have hvar := item_var hx
    have HP := Lib.hid (show prTy varL (f + 1) l (n : Int) = _ from by rw [prTy, Int.toNat_natCast, List.getElem?_eq_getElem hn])
    simp only at HP
    rw [endF_in f l n hn] at he
    have hE := fun w v hR => sEnd f l v ((n : Int) + 1) w hR ⟨by omega, by omega⟩ (.inr (by omega))
    have ih1 := fun w v hR he => ih v ((n : Int) + 1) w hR (by omega) he (by omega)
    have ih2 := fun w v hR (hg : (n : Int) + 1 ≤ endF f l ((n : Int) + 1)) he => ih v (endF f l ((n : Int) + 1)) w hR (by omega) he (by omega)
    have hgt : ∀ k, iterE (endF f l) k ((n : Int) + 1) = -1 ∨ (n : Int) + 1 ≤ iterE (endF f l) k ((n : Int) + 1) := fun k => iter_gt f l k _ (by omega)
    have hlt := iter_le f l 1 ((n : Int) + 1) (by omega)
    have hlt2 := iter_le f l 2 ((n : Int) + 1) (by omega)
    clear hc hR ih
    have hl1 := fun h => prTy_len l hall f ((n : Int) + 1) (by omega) h
    have hl2 := fun h0 h => prTy_len l hall f (endF f l ((n : Int) + 1)) h0 h
    generalize l[n] = x at *
    obtain ⟨⟨e0, i0⟩, ⟨e1, i1⟩, ⟨e2, i2⟩⟩ := ex
    have hns : x.name.size ≤ 12 := by rw [pr_toList] at hnm; exact hnm
    have h2 : (n : Int) < l.length := by omega
    have hap : ∀ (s : ByteArray) (k : List UInt8), s ++ ⟨k.toArray⟩ = ⟨(s.toList ++ k).toArray⟩ := fun s k => by rw [pr_toList]; exact str_app s.data.toList k
    have hself : (⟨x.name.toList.toArray⟩ : ByteArray) = x.name := by rw [pr_toList]
    by_cases hn0 : x.name.toList = []
    · obtain ⟨v0, v1, v2⟩ := hvar hn0
      have h1 : x.name.toList.isEmpty = true := by simp [hn0]
      have HB : Hid (prTy varL (f + 1) l (n : Int) = varL x.var) := by show _ = _; rw [HP.out, if_pos hn0]
      have hV := fun W => sVar x.var W v0 v1
      clear HP hE ih1 ih2 hgt hl1 hl2 hlt hlt2 hn0 he har hvar hap hself
      go_enter Tryz.func22, Tryz.ntmps22
      go_wp2_with (go_at_call 53; refine (hV _).mono ?_; rintro e w1 ⟨rfl, hb⟩)
      go_ret
      exact ⟨by rw [HB.out]; rfl, below_tr (Joins.below_alloc2 w _ _) hb⟩
    have h1 : x.name.toList.isEmpty = false := by simpa using hn0
    have HS := Lib.hid hself
    have HA := Lib.hid hap
    clear hself hap
    rcases har with h0 | har
    · have HB : Hid (prTy varL (f + 1) l (n : Int) = x.name.toList) := by show _ = _; rw [HP.out, if_neg hn0, if_pos h0]
      have t0 : (x.arity == 0) = true := by simpa using h0
      clear HP hE ih1 ih2 hgt hl1 hl2 hlt hlt2 hn0 he hvar h0
      go_enter Tryz.func22, Tryz.ntmps22
      go_wp2
      go_ret
      exact ⟨by rw [HB.out, HS.out]; rfl, Joins.below_alloc2 w _ _⟩
    have t0 : (x.arity == 0) = false := by simp; omega
    have he1 : 0 ≤ endF f l ((n : Int) + 1) := by
      rcases har with h | h
      · rw [h, show (1 : Int).toNat = 1 from rfl, iterE, if_neg (by omega)] at he; simpa only [iterE] using he
      · rw [h, show (2 : Int).toNat = 2 from rfl, iterE, if_neg (by omega)] at he
        by_cases hc : 0 ≤ endF f l ((n : Int) + 1)
        · exact hc
        · rw [iterE, if_pos (by omega)] at he; omega
    have hlA := hl1 he1
    have hT1 := fun W (hK : Kept w W) => Lib.hid (ih1 W _ (hR0.kept TyIEl.st hK) he1)
    have hle1 : endF f l ((n : Int) + 1) ≤ 200 := by
      rw [iterE, if_neg (by omega)] at hlt; simp only [iterE] at hlt; omega
    rcases har with h0 | h0
    · have HB : Hid (prTy varL (f + 1) l (n : Int) = [40] ++ prTy varL f l ((n : Int) + 1) ++ [41, 32] ++ x.name.toList) := by show _ = _; rw [HP.out, if_neg hn0, if_neg (by omega), if_pos h0]
      have ta : (x.arity == 1) = true := by simpa using h0
      generalize prTy varL f l ((n : Int) + 1) = A1 at *
      have hA1 : A1.length ≤ 8000 := by omega
      have hw : IntKind.i64.wrap ((n : Int) + 1) = (n : Int) + 1 := IntWalk.i64_in _ (by omega)
      clear HP hE ih1 ih2 hgt hl1 hl2 hlt hlt2 hn0 he hvar h0 hlA he1 hle1
      go_enter Tryz.func22, Tryz.ntmps22
      go_wp2_with (go_at_call 22; refine (hT1 _ (Kept.al2 _ _ _)).out.mono ?_; rintro e w1 ⟨rfl, hb⟩; obtain ⟨hcl, hfr⟩ := bcell hb)
      go_ret
      refine ⟨by rw [HB.out]; exact ret_str (by simp only [← str_app]; rw [HS.out]), below_tr (Joins.below_alloc2 w _ _) hb⟩
    · have ta : (x.arity == 1) = false := by simp; omega
      have he2 : 0 ≤ endF f l (endF f l ((n : Int) + 1)) := by
        rw [h0, show (2 : Int).toNat = 2 from rfl, iterE, if_neg (by omega), iterE, if_neg (by omega)] at he
        simpa only [iterE] using he
      have hg1 := hgt 1
      rw [iterE, if_neg (by omega)] at hg1
      simp only [iterE] at hg1
      have hle2 : endF f l (endF f l ((n : Int) + 1)) ≤ 200 := by
        rw [iterE, if_neg (by omega), iterE, if_neg (by omega)] at hlt2; simp only [iterE] at hlt2; omega
      have hlB := hl2 he1 he2
      have hT2 := fun W (hK : Kept w W) => Lib.hid (ih2 W _ (hR0.kept TyIEl.st hK) (by omega) he2)
      have hE' := fun W (hK : Kept w W) => Lib.hid (hE W _ (hR0.kept TyIEl.st hK))
      have HB : Hid (prTy varL (f + 1) l (n : Int) = if arrowB x.name = true then [40] ++ prTy varL f l ((n : Int) + 1) ++ [32] ++ x.name.toList ++ [32] ++ prTy varL f l (endF f l ((n : Int) + 1)) ++ [41]
          else [40] ++ prTy varL f l ((n : Int) + 1) ++ [44, 32] ++ prTy varL f l (endF f l ((n : Int) + 1)) ++ [41, 32] ++ x.name.toList) := by show _ = _; rw [HP.out, if_neg hn0, if_neg (by omega), if_neg (by omega)]
      generalize prTy varL f l ((n : Int) + 1) = A1 at *
      generalize prTy varL f l (endF f l ((n : Int) + 1)) = A2 at *
      generalize endF f l ((n : Int) + 1) = m at *
      have hA1 : A1.length ≤ 8000 := by omega
      have hA2 : A2.length ≤ 8000 := by omega
      have hw : IntKind.i64.wrap ((n : Int) + 1) = (n : Int) + 1 := IntWalk.i64_in _ (by omega)
      clear HP hE ih1 ih2 hgt hl1 hl2 hlt hlt2 hn0 he hvar h0 hlA hlB he1 hle1 he2 hle2 hg1
      go_enter Tryz.func22, Tryz.ntmps22
      go_wp2_with (go_at_call 22; refine (hT1 _ (Kept.al2 _ _ _)).out.mono ?_; rintro e w1 ⟨rfl, hb⟩; have hdone := 0; fail)
      refine (hT1 _ (Kept.al2 _ _ _)).out.mono ?_
      rintro e w1 ⟨rfl, hb⟩
      have Bt := below_tr (Joins.below_alloc2 w _ _) hb
      have K1 := Kept.of_below Bt
      have z1 := hb.size
      simp at z1
      have c0 : w1.cell? ⟨w.heap.size, 0, none⟩ = some (.slice (some ⟨b, o, none⟩) l.length cap) := by rw [hb.cell (p := ⟨w.heap.size, 0, none⟩) (by simp; omega)]; simp
      have c1 : w1.cell? ⟨w.heap.size + 1, 1, none⟩ = some (.string x.name) := by rw [hb.cell (p := ⟨w.heap.size + 1, 1, none⟩) (by simp)]; simp
      have c2 : w1.cell? ⟨w.heap.size + 1, 2, none⟩ = some (.int .i64 x.arity) := by rw [hb.cell (p := ⟨w.heap.size + 1, 2, none⟩) (by simp)]; simp
      clear hb hT1 hR hR0 e0 e1 e2
      go_wp2_with fail
      go_region_held3 (fun w' => w'.cell? ⟨w.heap.size, 0, none⟩ = some (.slice (some ⟨b, o, none⟩) l.length cap) ∧ w'.cell? ⟨w.heap.size + 1, 1, none⟩ = some (.string x.name) ∧ Kept w1 w')
        (first | exact ⟨c0, c1, Kept.refl _⟩ | exact ⟨c0, c1, Kept.drew _⟩ | exact ⟨(hbE.cell (p := ⟨w.heap.size, 0, none⟩) (by show w.heap.size < w1.heap.size; omega)).trans c0, (hbE.cell (p := ⟨w.heap.size + 1, 1, none⟩) (by show w.heap.size + 1 < w1.heap.size; omega)).trans c1, (Kept.drew _).trans (Kept.of_below hbE)⟩ | exact ⟨(hbT.cell (p := ⟨w.heap.size, 0, none⟩) (by show w.heap.size < wE.heap.size; have := hbE.size; simp at this; omega)).trans ((hbE.cell (p := ⟨w.heap.size, 0, none⟩) (by show w.heap.size < w1.heap.size; omega)).trans c0), (hbT.cell (p := ⟨w.heap.size + 1, 1, none⟩) (by show w.heap.size + 1 < wE.heap.size; have := hbE.size; simp at this; omega)).trans ((hbE.cell (p := ⟨w.heap.size + 1, 1, none⟩) (by show w.heap.size + 1 < w1.heap.size; omega)).trans c1), ((Kept.drew _).trans (Kept.of_below hbE)).trans (Kept.of_below hbT)⟩)
        (first | (go_at_call 54; refine (hE' _ (K1.trans (by first | exact Kept.drew _ | exact Kept.refl _))).out.mono ?_; rintro e wE ⟨rfl, hbE⟩) | (go_at_call 22; refine (hT2 _ ((K1.trans (Kept.drew _)).trans (Kept.of_below hbE))).out.mono ?_; rintro e wT ⟨rfl, hbT⟩))
      have Bx : Below w.heap.size w wT := below_tr Bt ((Below.refl _ _).drew.trans (hbE.trans (hbT.mono hbE.size)))
      have x1 : wT.cell? ⟨w.heap.size + 1, 1, none⟩ = some (.string x.name) := (hbT.cell (p := ⟨w.heap.size + 1, 1, none⟩) (by show w.heap.size + 1 < wE.heap.size; have := hbE.size; simp at this; omega)).trans ((hbE.cell (p := ⟨w.heap.size + 1, 1, none⟩) (by show w.heap.size + 1 < w1.heap.size; omega)).trans c1)
      clear c0 c1 c2 K1 Bt hbE hbT hE' hT2
      cases hab : arrowB x.name
      · rw [hab] at HB
        have HB' : Hid (prTy varL (f + 1) l (n : Int) = [40] ++ A1 ++ [44, 32] ++ A2 ++ [41, 32] ++ x.name.toList) := HB
        simp only [arrowB, Bool.or_eq_false_iff] at hab
        obtain ⟨q1, q2⟩ := hab
        clear HB
        go_wp2
        go_ret
        refine ⟨by rw [HB'.out]; exact ret_str (by simp only [← str_app]; rw [HS.out]), Bx⟩
      · rw [hab] at HB
        have HB' : Hid (prTy varL (f + 1) l (n : Int) = [40] ++ A1 ++ [32] ++ x.name.toList ++ [32] ++ A2 ++ [41]) := HB
        simp only [arrowB, Bool.or_eq_true] at hab
        clear HB
        by_cases q1 : (x.name.toList == [45, 62]) = true
        · clear hab
          go_wp2
          go_ret
          refine ⟨by rw [HB'.out]; exact ret_str (by simp only [← str_app]; rw [HS.out]), Bx⟩
        · have q2 : (x.name.toList == [42]) = true := hab.resolve_left q1
          have q1' : (x.name.toList == [45, 62]) = false := by simpa using q1
          clear hab q1
          go_wp2
          go_ret
          refine ⟨by rw [HB'.out]; exact ret_str (by simp only [← str_app]; rw [HS.out]), Bx⟩
/-- What PrintTy answers. -/
def prTyRes (l : List TyI) : ByteArray := if tyOkB l = true then ⟨(prTy varL (l.length + 1) l 0).toArray⟩ else ⟨#[]⟩
theorem tyOk_parts {l : List TyI} (h : tyOkB l = true) : (∀ x ∈ l, itemB x = true) ∧ l.length ≤ 200 ∧ endF (l.length + 1) l 0 = l.length := by
  unfold tyOkB at h
  simp only [Bool.and_eq_true, decide_eq_true_eq] at h
  obtain ⟨h0, h1, h2⟩ := h
  exact ⟨fun x hx => List.all_eq_true.1 h1 x hx, by omega, h2⟩
end Go.Proofs.YtbehcmogndpkhaaGreatDoor
namespace Go.Proofs.YtbehcmogndpkhaaGreatDoor
set_option linter.unusedVariables false
set_option maxRecDepth 100000
open Go.ChangeShapes Go.WideShapes Go.ChangeAt Go.RowKit

def cat (xs : List ByteArray) : List UInt8 := (xs.map (·.data.toList)).flatten
theorem join_nil (xs : List (List UInt8)) : Lib.join xs [] = xs.flatten := by
  induction xs with
  | nil => rfl
  | cons x r ih =>
    cases r with
    | nil => simp [Lib.join, List.intercalate]
    | cons y t => rw [Lib.join_cons, List.flatten_cons]; congr 1; simp [Lib.joinTail]

theorem joined (bk o c : Nat) (xs : List ByteArray) (w : World) (hcells : ∀ (j : Nat) x, xs[j]? = some x → w.cell? ⟨bk, o + j, none⟩ = some (.string x)) (hbk : bk < w.heap.size) (hN : xs.length ≤ 140737488355328) (hcap : xs.length ≤ c) (hlen : (cat xs).length ≤ 140737488355328) :
    Calls Tryz.prog 27 #[.slice (some ⟨bk, o, none⟩) xs.length c] w fun e w' => e = .returned (.string ⟨(cat xs).toArray⟩) ∧ Below w.heap.size w w' := by
  have hj : Lib.join (xs.map (·.data.toList)) (⟨#[]⟩ : ByteArray).data.toList = cat xs := join_nil _
  have hl : (Lib.join (xs.map (·.data.toList)) (⟨#[]⟩ : ByteArray).data.toList).length ≤ 140737488355328 := by rw [hj]; exact hlen
  have HJ := Lib.hid hj
  have HC := Lib.hid hcells
  clear hj hcells
  go_enter Tryz.func27, Tryz.ntmps27
  go_wp2_with (go_at_call 68; refine (Tryz.strings_Join bk o c xs _ _ HC.out hbk hN hcap hl).mono ?_; rintro e w1 ⟨rfl, hb⟩)
  go_ret
  exact ⟨by rw [← HJ.out]; rfl, hb⟩

theorem strs_new (w : World) (C : Array Value) (T : TypeId) (xs : List ByteArray) (h : C.toList = xs.map Value.string) : ∀ (j : Nat) x, xs[j]? = some x → (w.alloc (.cells C T)).cell? ⟨w.heap.size, 0 + j, none⟩ = some (.string x) := by
  intro j x hj
  rw [Nat.zero_add, World.cell?_alloc_new, ← Array.getElem?_toList, h, List.getElem?_map, hj]; rfl

theorem strs_at (w : World) (n : Nat) (C : Array Value) (T : TypeId) (xs : List ByteArray) (hn : n = w.heap.size) (h : C.toList = xs.map Value.string) : ∀ (j : Nat) x, xs[j]? = some x → (w.alloc (.cells C T)).cell? ⟨n, 0 + j, none⟩ = some (.string x) := by
  subst hn; exact strs_new w C T xs h
end Go.Proofs.YtbehcmogndpkhaaGreatDoor
namespace Go.Proofs.YtbehcmogndpkhaaGreatDoor
set_option linter.unusedVariables false
set_option maxRecDepth 100000
open Go.ChangeShapes Go.WideShapes Go.ChangeAt Go.RowKit

/-- Texts as strings. -/
def strs (P : List (List UInt8)) : List ByteArray := P.map fun l => ⟨l.toArray⟩
theorem strs_length (P : List (List UInt8)) : (strs P).length = P.length := by simp [strs]
theorem cat_strs (P : List (List UInt8)) : cat (strs P) = P.flatten := by
  unfold cat strs
  rw [List.map_map]
  congr 1
  exact (List.map_congr_left fun x _ => rfl).trans (List.map_id P)
/-- A literal of texts. -/
theorem lit_strs {W : World} {C : Array Value} {T : TypeId} {xs : List ByteArray} {n m : Nat} (hn : n = W.heap.size) (h : C.toList = xs.map Value.string) (hm : m = xs.length) (hs : ∀ x ∈ xs, x.size ≤ maxLen) (hl : xs.length ≤ maxLen) :
    RowRd 1 StrEl (W.alloc (.cells C T)) (.slice (some ⟨n, 0, none⟩) m m) xs := by
  subst hm
  refine RowRd.mk hl (Nat.le_refl _) fun h0 => ⟨n, 0, rfl, by simp [hn], fun i hi => ⟨?_, hs _ (List.getElem_mem hi)⟩⟩
  have := strs_at W n C T xs hn h i xs[i] (List.getElem?_eq_getElem hi)
  rw [Nat.mul_one]
  exact this
theorem lit_own {W : World} {B : Nat} {C : Array Value} {xs : List ByteArray} {n m : Nat} (hn : n = W.heap.size) (hB : B ≤ W.heap.size) (h : C.toList = sc xs) (hm : m = xs.length) (hl : xs.length ≤ maxLen) :
    (W.alloc (.cells C 9)).ownsRow B 9 1 (.slice (some ⟨n, 0, none⟩) m m) xs.length (sc xs) := by
  subst hn hm
  have hs : C.size = xs.length := by rw [← Array.length_toList, h, sc_length]
  rw [← h]
  exact World.ownsRow_lit W C xs.length hB hl (by rw [hs, Nat.mul_one])
theorem own_rds {B e : Nat} {w : World} {v : Value} {l : List ByteArray} (h : w.ownsRow B e 1 v l.length (sc l)) (hm : l.length ≤ maxLen) (hI : ∀ x ∈ l, x.size ≤ maxLen) : RowRd 1 StrEl w v l := by
  by_cases h0 : 0 < l.length
  · obtain ⟨g, cap, rfl, h1, h2, h3, h4, _⟩ := own_shape h h0
    refine .inr ⟨g, 0, cap, rfl, ⟨hm, h3⟩, h2, h0, fun i hi => ?_⟩
    have := h4 i hi
    rw [Nat.mul_one, Nat.zero_add]
    exact ⟨by rw [this]; simp [sc, hi], hI _ (List.getElem_mem hi)⟩
  · obtain rfl : l = [] := List.eq_nil_of_length_eq_zero (by omega)
    obtain ⟨hx, ⟨rfl, _⟩ | ⟨g, cap, cur, rfl, _⟩⟩ := h
    · exact .inl ⟨rfl, _, _, rfl⟩
    · exact .inl ⟨rfl, _, _, rfl⟩
theorem rd_sizes {w : World} {v : Value} {l : List ByteArray} (h : RowRd 1 StrEl w v l) : l.length ≤ maxLen ∧ ∀ x ∈ l, x.size ≤ maxLen := by
  obtain ⟨a, cap, _, hm, hR⟩ := h.form
  refine ⟨hm, fun x hx => ?_⟩
  obtain ⟨i, hi, rfl⟩ := List.getElem_of_mem hx
  obtain ⟨b, o, _, _, hc⟩ := hR (by omega)
  exact (hc i hi).2
theorem sz_ok (t : List UInt8) (h : t.length ≤ 100) : (⟨t.toArray⟩ : ByteArray).size ≤ maxLen := by
  have e : (⟨t.toArray⟩ : ByteArray).size = t.length := by show t.toArray.size = _; simp
  rw [e]; unfold maxLen; omega
theorem all1 {a : ByteArray} (h : a.size ≤ maxLen) : ∀ x ∈ [a], x.size ≤ maxLen := by simpa using h
theorem all2 {a b : ByteArray} (h : a.size ≤ maxLen) (h2 : b.size ≤ maxLen) : ∀ x ∈ [a, b], x.size ≤ maxLen := by
  intro x hx
  rcases List.mem_cons.1 hx with rfl | hx
  · exact h
  · exact all1 h2 x hx
theorem all3 {a b c : ByteArray} (h : a.size ≤ maxLen) (h2 : b.size ≤ maxLen) (h3 : c.size ≤ maxLen) : ∀ x ∈ [a, b, c], x.size ≤ maxLen := by
  intro x hx
  rcases List.mem_cons.1 hx with rfl | hx
  · exact h
  · exact all2 h2 h3 x hx
theorem enc_small (m : Nat) (h : m ≤ 25) : Utf8.encode (97 + (m : Int)) = ⟨#[97 + UInt8.ofNat m]⟩ := by
  have : ∀ k : Fin 26, Utf8.encode (97 + (k.val : Int)) = ⟨#[97 + UInt8.ofNat k.val]⟩ := by decide
  exact this ⟨m, by omega⟩
theorem iVarText (v : Int) (w : World) (h0 : 0 ≤ v) (h1 : v ≤ 9999) (htab : Lib.TabIs Tryz.prog w "internal/strconv.uint64pow10" .u64 Lib.pow10Tab) :
    Calls Tryz.prog 230 #[.int .i64 v] w fun e w' => e = .returned (.string ⟨(varL v).toArray⟩) ∧ Below w.heap.size w w' := by
  by_cases hv : 25 < v
  · have HB := Lib.hid (show varL v = cat [⟨#[39, 122]⟩, ⟨(numL v).toArray⟩] from by rw [varL, if_pos hv]; simp [cat])
    have HN := Lib.hid (iNumText v w (by omega) htab)
    have hl := numL_len v h0 h1
    clear htab
    generalize numL v = t at *
    have HJ := fun (W : World) => Lib.hid (joined W.heap.size 0 2 [⟨#[39, 122]⟩, ⟨t.toArray⟩] (W.alloc (.cells #[.string ⟨#[39, 122]⟩, .string ⟨t.toArray⟩] 9)) (strs_at _ _ _ _ _ rfl rfl) (by simp) (by simp) (by simp) (by simp [cat]; omega))
    go_enter Tryz.func230, Tryz.ntmps230
    go_wp2_with (first | (go_at_call 72; refine HN.out.mono ?_; rintro e w1 ⟨rfl, hb⟩) | (go_at_call 27; go_loud (refine (HJ w1).out.mono ?_); rintro e w2 ⟨rfl, hb2⟩))
    go_ret
    exact ⟨by rw [HB.out]; rfl, hb.trans ((below_tr (Joins.below_alloc1 w1 _) hb2).mono hb.size)⟩
  · have HB := Lib.hid (show varL v = [39] ++ [UInt8.ofNat (97 + v.toNat)] from by rw [varL, if_neg hv]; rfl)
    obtain ⟨m, rfl⟩ : ∃ m : Nat, v = m := ⟨v.toNat, by omega⟩
    have hm : m ≤ 25 := by omega
    have henc := enc_small m hm
    have hw : IntKind.i64.wrap (97 + (m : Int)) = 97 + (m : Int) := IntWalk.i64_in _ (by omega)
    have hw2 : IntKind.i32.wrap (97 + (m : Int)) = 97 + (m : Int) := IntWalk.i32_in _ (by omega)
    have HJ := Lib.hid (joined w.heap.size 0 2 [⟨#[39]⟩, ⟨#[97 + UInt8.ofNat m]⟩] (w.alloc (.cells #[.string ⟨#[39]⟩, .string ⟨#[97 + UInt8.ofNat m]⟩] 9)) (strs_at _ _ _ _ _ rfl rfl) (by simp) (by simp) (by simp) (by simp [cat]))
    clear h0 h1 htab
    go_enter Tryz.func230, Tryz.ntmps230
    go_wp2_with (go_at_call 27; go_loud (refine HJ.out.mono ?_); rintro e w2 ⟨rfl, hb2⟩)
    go_ret
    exact ⟨by rw [HB.out, Int.toNat_natCast, UInt8.ofNat_add]; rfl, below_tr (Joins.below_alloc1 w _) hb2⟩
set_option maxHeartbeats 4000000 in
theorem iItemTexts (x : TyI) (w : World) (hx : itemB x = true) (htab : Lib.TabIs Tryz.prog w "internal/strconv.uint64pow10" .u64 Lib.pow10Tab) :
    Calls Tryz.prog 197 #[.agg #[.int .i64 x.var, .string x.name, .int .i64 x.arity]] w fun e w' => ∃ v', e = .returned v' ∧ RowRd 1 StrEl w' v' (strs (itemT varL x)) ∧ w'.ownsRow w.heap.size 9 1 v' (strs (itemT varL x)).length (sc (strs (itemT varL x))) ∧ Below w.heap.size w w' := by
  have har := item_arity hx
  have hnm := item_name hx
  have hvar := item_var hx
  have hns : x.name.size ≤ 12 := by rw [pr_toList] at hnm; exact hnm
  have hnd : x.name.data.toList.length ≤ 12 := hns
  by_cases hn0 : x.name.toList = []
  · obtain ⟨v0, v1, v2⟩ := hvar hn0
    have h1 : x.name.toList.isEmpty = true := by simp [hn0]
    have HB := Lib.hid (show strs (itemT varL x) = [⟨(varL x.var).toArray⟩] from by rw [itemT, if_pos hn0]; rfl)
    have HV := Lib.hid (iVarText x.var (w.alloc (.cells #[.int .i64 x.var, .string x.name, .int .i64 x.arity] 117)) v0 v1 (tab_below htab (Joins.below_alloc1 w _)))
    have hl := varL_len x.var v0 v1
    clear har hvar hn0 htab hx v2
    generalize varL x.var = t at *
    go_enter Tryz.func197, Tryz.ntmps197
    go_wp2_with (go_at_call 230; go_loud (refine HV.out.mono ?_); rintro e w1 ⟨rfl, hb⟩)
    go_ret
    refine ⟨_, rfl, ?_, ?_, (below_tr (Joins.below_alloc1 w _) hb).trans ((Joins.below_alloc1 w1 _).mono (by have := hb.size; simp at this; omega))⟩
    · rw [HB.out]
      exact lit_strs rfl rfl rfl (all1 (sz_ok _ (by omega))) (by simp; unfold maxLen; omega)
    · rw [HB.out]
      exact lit_own rfl (by have := hb.size; simp at this; omega) rfl rfl (by simp; unfold maxLen; omega)
  have h1 : x.name.toList.isEmpty = false := by simpa using hn0
  rcases har with h0 | har
  · have HB := Lib.hid (show strs (itemT varL x) = [x.name] from by rw [itemT, if_neg hn0, if_pos h0, pr_toList]; rfl)
    have t0 : (x.arity == 0) = true := by simpa using h0
    clear hvar hn0 h0 htab hx
    go_enter Tryz.func197, Tryz.ntmps197
    go_wp2
    go_ret
    refine ⟨_, rfl, ?_, ?_, Joins.below_alloc2 w _ _⟩
    · rw [HB.out]
      exact lit_strs (by simp) rfl rfl (by simp; unfold maxLen; omega) (by simp; unfold maxLen; omega)
    · rw [HB.out]
      exact lit_own (by simp) (by simp) rfl rfl (by simp; unfold maxLen; omega)
  have t0 : (x.arity == 0) = false := by simp; omega
  rcases har with h0 | h0
  · have HB := Lib.hid (show strs (itemT varL x) = [⟨#[40]⟩, ⟨(cat [⟨#[41, 32]⟩, x.name]).toArray⟩] from by rw [itemT, if_neg hn0, if_neg (by omega), if_pos h0, pr_toList]; simp [strs, cat])
    have t1 : (x.arity == 1) = true := by simpa using h0
    have hcl : (cat [⟨#[41, 32]⟩, x.name]).length ≤ 100 := by simp [cat]; omega
    have HJ := Lib.hid fun (W : World) (n : Nat) (hn : n = W.heap.size) => joined n 0 2 [⟨#[41, 32]⟩, x.name] (W.alloc (.cells #[.string ⟨#[41, 32]⟩, .string x.name] 9)) (strs_at _ _ _ _ _ hn rfl) (by simp [hn]) (by simp) (by simp) (by omega)
    clear hvar hn0 h0 htab hx
    generalize cat [⟨#[41, 32]⟩, x.name] = t at *
    go_enter Tryz.func197, Tryz.ntmps197
    go_wp2_with (go_at_call 27; go_loud (refine (HJ.out _ _ (by simp)).mono ?_); rintro e w1 ⟨rfl, hb⟩)
    go_ret
    refine ⟨_, rfl, ?_, ?_, (below_tr (Joins.below_alloc2 w _ _) hb).trans ((Joins.below_alloc1 w1 _).mono (by have := hb.size; simp at this; omega))⟩
    · rw [HB.out]
      exact lit_strs rfl rfl rfl (all2 (sz_ok [40] (by simp)) (sz_ok _ (by omega))) (by simp; unfold maxLen; omega)
    · rw [HB.out]
      exact lit_own rfl (by have := hb.size; simp at this; omega) rfl rfl (by simp; unfold maxLen; omega)
  have t1 : (x.arity == 1) = false := by simp; omega
  cases hab : arrowB x.name
  · have HB := Lib.hid (show strs (itemT varL x) = [⟨#[40]⟩, ⟨#[44, 32]⟩, ⟨(cat [⟨#[41, 32]⟩, x.name]).toArray⟩] from by rw [itemT, if_neg hn0, if_neg (by omega), if_neg (by omega), hab, pr_toList]; simp [strs, cat])
    have hcl : (cat [⟨#[41, 32]⟩, x.name]).length ≤ 100 := by simp [cat]; omega
    have HJ := Lib.hid fun (W : World) (n : Nat) (hn : n = W.heap.size) => joined n 0 2 [⟨#[41, 32]⟩, x.name] (W.alloc (.cells #[.string ⟨#[41, 32]⟩, .string x.name] 9)) (strs_at _ _ _ _ _ hn rfl) (by simp [hn]) (by simp) (by simp) (by omega)
    simp only [arrowB, Bool.or_eq_false_iff] at hab
    obtain ⟨q1, q2⟩ := hab
    clear hvar hn0 h0 htab hx
    generalize cat [⟨#[41, 32]⟩, x.name] = t at *
    go_enter Tryz.func197, Tryz.ntmps197
    go_wp2_with (go_at_call 27; go_loud (refine (HJ.out _ _ (by simp)).mono ?_); rintro e w1 ⟨rfl, hb⟩)
    go_ret
    refine ⟨_, rfl, ?_, ?_, (below_tr (Joins.below_alloc2 w _ _) hb).trans ((Joins.below_alloc1 w1 _).mono (by have := hb.size; simp at this; omega))⟩
    · rw [HB.out]
      exact lit_strs rfl rfl rfl (all3 (sz_ok [40] (by simp)) (sz_ok [44, 32] (by simp)) (sz_ok _ (by omega))) (by simp; unfold maxLen; omega)
    · rw [HB.out]
      exact lit_own rfl (by have := hb.size; simp at this; omega) rfl rfl (by simp; unfold maxLen; omega)
  · have HB := Lib.hid (show strs (itemT varL x) = [⟨#[40]⟩, ⟨(cat [⟨#[32]⟩, x.name, ⟨#[32]⟩]).toArray⟩, ⟨#[41]⟩] from by rw [itemT, if_neg hn0, if_neg (by omega), if_neg (by omega), hab, pr_toList]; simp [strs, cat])
    have hcl : (cat [⟨#[32]⟩, x.name, ⟨#[32]⟩]).length ≤ 100 := by simp [cat]; omega
    have HJ := Lib.hid fun (W : World) (n : Nat) (hn : n = W.heap.size) => joined n 0 3 [⟨#[32]⟩, x.name, ⟨#[32]⟩] (W.alloc (.cells #[.string ⟨#[32]⟩, .string x.name, .string ⟨#[32]⟩] 9)) (strs_at _ _ _ _ _ hn rfl) (by simp [hn]) (by simp) (by simp) (by omega)
    simp only [arrowB, Bool.or_eq_true] at hab
    generalize cat [⟨#[32]⟩, x.name, ⟨#[32]⟩] = t at *
    by_cases q1 : (x.name.toList == [45, 62]) = true
    all_goals
      first
      | (have q1' : (x.name.toList == [45, 62]) = true := q1
         clear hab)
      | (have q2 : (x.name.toList == [42]) = true := hab.resolve_left q1
         have q1' : (x.name.toList == [45, 62]) = false := by simpa using q1
         clear hab q1)
      clear hvar hn0 h0 htab hx
      go_enter Tryz.func197, Tryz.ntmps197
      go_wp2_with (go_at_call 27; go_loud (refine (HJ.out _ _ (by simp)).mono ?_); rintro e w1 ⟨rfl, hb⟩)
      go_ret
      refine ⟨_, rfl, ?_, ?_, (below_tr (Joins.below_alloc2 w _ _) hb).trans ((Joins.below_alloc1 w1 _).mono (by have := hb.size; simp at this; omega))⟩
      · rw [HB.out]
        exact lit_strs rfl rfl rfl (all3 (sz_ok [40] (by simp)) (sz_ok _ (by omega)) (sz_ok [41] (by simp))) (by simp; unfold maxLen; omega)
      · rw [HB.out]
        exact lit_own rfl (by have := hb.size; simp at this; omega) rfl rfl (by simp; unfold maxLen; omega)
end Go.Proofs.YtbehcmogndpkhaaGreatDoor
