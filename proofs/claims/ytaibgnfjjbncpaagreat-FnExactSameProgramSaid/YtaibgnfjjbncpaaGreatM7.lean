/- Texts of this proof, merged: OkS, PrMath, NumMath, Wrap, Digits, PrS, DecMath, TyInj, DoMath. -/
import Derived.Test.YtaibgnfjjbncpaaGreatM3
import Derived.Test.YtaibgnfjjbncpaaGreatM4
import Derived.WalkKit
import Derived.WalkSmall
import Derived.ProofKit
import Derived.OpenShut
import Derived.Lib.Hide
import Derived.Lib.SmallJoins
import Derived.StillTailTactics
import Derived.Deep.QuietTactic
import Derived.BigQuiet
import Derived.Deep.RegionHeld3
import Derived.Deep.RegionWith
import Derived.Outline
import Derived.Test.YtaibgnfjjbncpaaGreatRows
import Derived.Shelf.RegionOpenPlain
import Derived.Lib.Join
import Derived.Lib.ItoaLen
import Derived.Stop.LaidErr
import Derived.LaidMore
import Derived.Lib.AtoiAll
import Derived.Lib.ItoaNum
namespace Go.Proofs.YtaibgnfjjbncpaaGreat
set_option linter.unusedVariables false
set_option maxRecDepth 100000
open Go.ChangeShapes Go.WideShapes Go.ChangeAt Go.RowKit

theorem sItem (x : TyI) (w : World) (hs : x.name.size ≤ maxLen) :
    Calls Tryz.prog 92 #[.agg #[.int .i64 x.var, .string x.name, .int .i64 x.arity]] w fun e w' => e = .returned (.bool (itemB x)) ∧ Below w.heap.size w w' := by
  by_cases hn : x.name.toList = []
  · have h1 : x.name.toList.isEmpty = true := by simp [hn]
    have HB := Lib.hid (show itemB x = (decide (0 ≤ x.var) && (decide (x.var ≤ 9999) && decide (x.arity = 0))) from by rw [itemB, if_pos hn])
    go_enter Tryz.func92, Tryz.ntmps92
    go_wp2
    all_goals
      go_ret
      refine ⟨ret_bool ?_, Joins.below_alloc1 w _⟩
      rw [HB.out]
      first | (rw [Bool.eq_iff_iff]; simp; omega) | (simp; omega)
  · have h1 : x.name.toList.isEmpty = false := by simpa using hn
    by_cases hv : x.var = 0
    · have hv1 : (x.var == 0) = true := by simpa using hv
      have hv2 : (x.var != 0) = false := by simpa using hv
      by_cases ha : x.name.toList = [45, 62] ∨ x.name.toList = [42]
      · have HB := Lib.hid (show itemB x = decide (x.arity = 2) from by rw [itemB, if_neg hn, if_pos hv, if_pos ha])
        clear hv
        rcases ha with ha | ha
        all_goals
          go_enter Tryz.func92, Tryz.ntmps92
          go_wp2
          all_goals
            go_ret
            refine ⟨ret_bool ?_, Joins.below_alloc1 w _⟩
            rw [HB.out]
            rw [Bool.eq_iff_iff]; simp
      · obtain ⟨ha1, ha2⟩ := not_or.1 ha
        have hb1 : (x.name.toList == [45, 62]) = false := by simpa using ha1
        have hb2 : (x.name.toList == [42]) = false := by simpa using ha2
        by_cases hr : x.name.toList = [114, 101, 102]
        · have HB := Lib.hid (show itemB x = decide (x.arity = 1) from by rw [itemB, if_neg hn, if_pos hv, if_neg ha, if_pos hr])
          clear hv ha
          go_enter Tryz.func92, Tryz.ntmps92
          go_wp2
          go_ret
          refine ⟨ret_bool ?_, Joins.below_alloc1 w _⟩
          rw [HB.out]
          rw [Bool.eq_iff_iff]; simp
        · have hr1 : (x.name.toList == [114, 101, 102]) = false := by simpa using hr
          have HB := Lib.hid (show itemB x = (nameB x.name && (decide (0 ≤ x.arity) && decide (x.arity ≤ 2))) from by rw [itemB, if_neg hn, if_pos hv, if_neg ha, if_neg hr])
          clear hv ha hr
          go_enter Tryz.func92, Tryz.ntmps92
          go_wp2_with fail
          refine (sNameOk _ _ hs).mono ?_
          rintro e w1 ⟨rfl, hb⟩
          obtain ⟨hc, hf⟩ := bcell hb
          generalize nameB x.name = nb at *
          cases nb
          all_goals
            go_wp2
            all_goals
              go_ret
              refine ⟨ret_bool ?_, below_tr (Joins.below_alloc1 w _) hb⟩
              rw [HB.out]
              first | (simp; done) | (rw [Bool.eq_iff_iff]; simp; omega) | (simp; omega)
    · have hv2 : (x.var != 0) = true := by simpa using hv
      have HB := Lib.hid (show itemB x = false from by rw [itemB, if_neg hn, if_neg hv])
      clear hv
      go_enter Tryz.func92, Tryz.ntmps92
      go_wp2
      go_ret
      exact ⟨ret_bool HB.out.symm, Joins.below_alloc1 w _⟩
theorem sEnd : ∀ (f : Nat) (l : List TyI) (v : Value) (a : Int) (w : World) (hR : RowRd 3 TyIEl w v l) (ha : I64 a) (hf : a < 0 ∨ (l.length : Int) < a + f),
    Calls Tryz.prog 59 #[.agg #[v], .int .i64 a] w fun e w' => e = .returned (.int .i64 (endF f l a)) ∧ Below w.heap.size w w' := by
  intro f
  induction f with
  | zero =>
    intro l v a w hR ha hf
    obtain ⟨p, cap, rfl, hm, _⟩ := hR.form
    have HB := Lib.hid (endF_out 0 l a (by omega))
    obtain ⟨ha1, ha2⟩ := ha
    unfold maxLen at hm
    by_cases h0 : a < 0
    · go_enter Tryz.func59, Tryz.ntmps59
      go_wp2
      go_ret
      exact ⟨ret_int' HB.out.symm, Joins.below_alloc1 w _⟩
    · have h1 : (l.length : Int) ≤ a := by omega
      go_enter Tryz.func59, Tryz.ntmps59
      go_wp2
      go_ret
      exact ⟨ret_int' HB.out.symm, Joins.below_alloc1 w _⟩
  | succ f ih =>
    intro l v a w hR ha hf
    have hR0 := hR
    obtain ⟨p, cap, rfl, hm, hR⟩ := hR.form
    obtain ⟨ha1, ha2⟩ := ha
    unfold maxLen at hm
    by_cases h0 : a < 0
    · have HB := Lib.hid (endF_out (f + 1) l a (.inl h0))
      go_enter Tryz.func59, Tryz.ntmps59
      go_wp2
      go_ret
      exact ⟨ret_int' HB.out.symm, Joins.below_alloc1 w _⟩
    by_cases h1 : (l.length : Int) ≤ a
    · have HB := Lib.hid (endF_out (f + 1) l a (.inr h1))
      go_enter Tryz.func59, Tryz.ntmps59
      go_wp2
      go_ret
      exact ⟨ret_int' HB.out.symm, Joins.below_alloc1 w _⟩
    obtain ⟨n, rfl⟩ : ∃ n : Nat, a = n := ⟨a.toNat, by omega⟩
    have hn : n < l.length := by omega
    have HB := Lib.hid (endF_in f l n hn)
    have hfl : (l.length : Int) < (n : Int) + 1 + f := by omega
    have h2 : (n : Int) < l.length := by omega
    clear h0 h1 hf
    have hnb : decide ((n : Int) < 0) = false := by simp
    have hnc : decide (l.length ≤ n) = false := by simp; omega
    obtain ⟨b, o, rfl, hbw, hc⟩ := hR (by omega)
    have ex := hc n hn
    clear hc hR
    generalize l[n] = x at *
    obtain ⟨⟨e0, i0⟩, ⟨e1, i1⟩, ⟨e2, i2⟩⟩ := ex
    obtain ⟨i2a, i2b⟩ := i2
    go_enter Tryz.func59, Tryz.ntmps59
    go_wp2
    go_loopw [5, 6] (fun nx i wr => ∃ k : Nat, i = .int .i64 k ∧ nx = .int .i64 (iterE (endF f l) k ((n : Int) + 1)) ∧ k ≤ x.arity.toNat ∧ Below (w.alloc (.cells #[.slice (some ⟨b, o, none⟩) l.length cap] 64)).heap.size (w.alloc (.cells #[.slice (some ⟨b, o, none⟩) l.length cap] 64)) wr) (fun _ i _ => x.arity.toNat - (intOf i).toNat)
    case atStart => exact ⟨0, rfl, rfl, Nat.zero_le _, Below.refl _ _⟩
    case round =>
      obtain ⟨k, rfl, rfl, hk, hbel⟩ := hrel
      obtain ⟨hcl, hfr⟩ := bcell hbel
      have hsz := hbel.size
      simp at hsz
      have c0 : wr.cell? ⟨w.heap.size, 0, none⟩ = some (.slice (some ⟨b, o, none⟩) l.length cap) := by rw [hcl _ _ (by simp)]; simp
      have c2 : wr.cell? ⟨b, o + n * 3 + 2, none⟩ = some (.int .i64 x.arity) := by rw [hcl _ _ (by simp; omega)]; exact ((Kept.alloc w _).cell b _ hbw).trans e2
      clear hcl hfr
      have hbd := iter_gt f l k ((n : Int) + 1) (by omega)
      have hle := iter_le f l k ((n : Int) + 1) (by omega)
      have HS := Lib.hid (iterE_snoc (endF f l) k ((n : Int) + 1))
      have HM := Lib.hid (fun m => iterE_more (endF f l) k m ((n : Int) + 1))
      obtain ⟨N, hN⟩ : ∃ N, N = iterE (endF f l) k ((n : Int) + 1) := ⟨_, rfl⟩
      rw [← hN] at hbd hle ⊢
      have HN := Lib.hid hN
      clear hN e0 e1 e2
      by_cases hlt : (k : Int) < x.arity
      · by_cases hneg : N < 0
        · go_wp2
          go_ret
          refine ⟨ret_int' ?_, (Joins.below_alloc1 w _).trans (hbel.mono (by simp))⟩
          rw [HB.out, HM.out _ (by rw [← HN.out]; exact hneg) (by omega), HN.out]
        · have hN0 : 0 ≤ N := by omega
          go_wp2_with fail
          refine (ih l _ N _ (hR0.kept TyIEl.st ((Kept.alloc _ _).trans (Kept.of_below hbel))) ⟨by omega, by omega⟩ (by omega)).mono ?_
          rintro e w1 ⟨rfl, hb1⟩
          go_wp2
          go_roundw
          case rel => exact ⟨k + 1, by go_num, by rw [HS.out, ← HN.out, if_neg (show ¬ N < 0 by omega)], by omega, below_tr hbel hb1⟩
          case measure => simp [intOf]; omega
      · go_wp2
        go_ret
        refine ⟨ret_int' ?_, (Joins.below_alloc1 w _).trans (hbel.mono (by simp))⟩
        rw [HB.out, show x.arity.toNat = k from by omega, HN.out]
theorem all_snoc {α : Type} (f : α → Bool) (l : List α) (k : Nat) (h : k < l.length) (h0 : (l.take k).all f = true) (h1 : f l[k] = true) : (l.take (k + 1)).all f = true := by
  rw [List.take_succ_eq_append_getElem h, List.all_append, h0]; simp [h1]
theorem all_no {α : Type} (f : α → Bool) (l : List α) (k : Nat) (h : k < l.length) (h1 : f l[k] = false) : l.all f = false := by
  rw [List.all_eq_false]; exact ⟨_, List.getElem_mem h, by simp [h1]⟩
theorem sTyOk (l : List TyI) (v : Value) (w : World) (hR : RowRd 3 TyIEl w v l) :
    Calls Tryz.prog 53 #[.agg #[v]] w fun e w' => e = .returned (.bool (tyOkB l)) ∧ Below w.heap.size w w' := by
  have hR0 := hR
  obtain ⟨p, cap, rfl, hm, hR⟩ := hR.form
  unfold maxLen at hm
  by_cases h0 : 200 < (l.length : Int)
  · have HB := Lib.hid (show tyOkB l = false from by simp [tyOkB]; omega)
    go_enter Tryz.func53, Tryz.ntmps53
    go_wp2
    go_ret
    exact ⟨ret_bool HB.out.symm, Joins.below_alloc1 w _⟩
  · have hlb : decide (200 < (l.length : Int)) = false := by simp; omega
    go_enter Tryz.func53, Tryz.ntmps53
    go_wp2
    go_loopw [12] (fun i wr => ∃ k : Nat, i = .int .i64 k ∧ k ≤ l.length ∧ (l.take k).all itemB = true ∧ Below (w.alloc (.cells #[.slice p l.length cap] 64)).heap.size (w.alloc (.cells #[.slice p l.length cap] 64)) wr) (fun i _ => l.length - (intOf i).toNat)
    case atStart => exact ⟨0, rfl, Nat.zero_le _, rfl, Below.refl _ _⟩
    case round =>
      obtain ⟨k, rfl, hk, hall, hbel⟩ := hrel
      have HA := Lib.hid hall
      clear hall
      have hsz := hbel.size
      simp at hsz
      by_cases hlt : k < l.length
      · obtain ⟨b, o, rfl, hbw, hc⟩ := hR (by omega)
        have ex := TyIEl.st w wr b _ _ ((Kept.alloc _ _).trans (Kept.of_below hbel)) hbw (hc k hlt)
        clear hc hR
        have hno := all_no itemB l k hlt
        have hyes := all_snoc itemB l k hlt HA.out
        have HN := Lib.hid hno
        have HY := Lib.hid hyes
        clear hno hyes
        generalize l[k] = x at *
        obtain ⟨⟨e0, i0⟩, ⟨e1, i1⟩, ⟨e2, i2⟩⟩ := ex
        go_wp2_with fail
        refine (sItem _ _ i1).mono ?_
        rintro e w1 ⟨rfl, hb1⟩
        cases hx : itemB x
        · go_wp2
          go_ret
          exact ⟨ret_bool (by simp [tyOkB, HN.out hx]), ((Joins.below_alloc1 w _).trans (hbel.mono (by simp))).trans ((((Below.refl _ _).alloc (Nat.le_refl _) _).trans (hb1.mono (by simp))).mono (by omega))⟩
        · go_wp2
          go_roundw
          case rel => exact ⟨k + 1, by go_num, by omega, HY.out hx, hbel.trans ((((Below.refl _ _).alloc (Nat.le_refl _) _).trans (hb1.mono (by simp))).mono (by simp; omega))⟩
          case measure => simp [intOf]; omega
      · obtain rfl : k = l.length := by omega
        rw [List.take_length] at HA
        have HB := Lib.hid (show tyOkB l = decide (endF (l.length + 1) l 0 = (l.length : Int)) from by simp [tyOkB, HA.out]; omega)
        obtain ⟨hcl, hfr⟩ := bcell hbel
        have c0 : wr.cell? ⟨w.heap.size, 0, none⟩ = some (.slice p l.length cap) := by rw [hcl _ _ (by simp)]; simp
        clear hcl hfr hR
        have hlt0 : w.heap.size < wr.heap.size := by omega
        have HE := fun W (hK : Kept wr W) => Lib.hid (sEnd (l.length + 1) l _ 0 W ((hR0.kept TyIEl.st ((Kept.alloc _ _).trans (Kept.of_below hbel))).kept TyIEl.st hK) ⟨by omega, by omega⟩ (by omega))
        go_wp2_with fail
        go_region_held3 (fun w' => w'.cell? ⟨w.heap.size, 0, none⟩ = some (.slice p l.length cap) ∧ Kept wr w')
          (first | exact ⟨c0, Kept.refl _⟩ | exact ⟨c0, Kept.drew _⟩ | exact ⟨(hb1.cell (p := ⟨w.heap.size, 0, none⟩) hlt0).trans c0, (Kept.drew _).trans (Kept.of_below hb1)⟩)
          ((go_at_call 59; refine (HE _ (by first | exact Kept.drew _ | exact Kept.refl _)).out.mono ?_; rintro e w1 ⟨rfl, hb1⟩))
        go_wp2
        go_ret
        refine ⟨ret_bool ?_, (Joins.below_alloc1 w _).trans (hbel.drew.trans (hb1.mono (by simp; omega)) |>.mono (by simp))⟩
        rw [HB.out, Bool.eq_iff_iff]; simp
theorem sTyOkC (l : List TyI) (v : Value) (w : World) (hR : RowRd 3 TyIEl w v l) (hz : bTy l ≤ 1048576) :
    Calls Tryz.prog 53 #[.agg #[v]] w fun e w' => e = .returned (.bool (tyOkB l)) ∧ Below w.heap.size w w' := sTyOk l v w hR
end Go.Proofs.YtaibgnfjjbncpaaGreat
namespace Go.Proofs.YtaibgnfjjbncpaaGreat
set_option linter.unusedVariables false
open Go.RowKit

theorem pr_loop_len (bs : ByteArray) : ∀ (n i : Nat) (r : List UInt8), bs.size - i = n → (ByteArray.toList.loop bs i r) = r.reverse ++ bs.data.toList.drop i := by
  intro n
  induction n with
  | zero =>
    intro i r h
    unfold ByteArray.toList.loop
    have : ¬ i < bs.size := by omega
    have h2 : bs.data.toList.length ≤ i := by have e : bs.size = bs.data.toList.length := rfl; omega
    rw [if_neg this, List.drop_eq_nil_of_le h2, List.append_nil]
  | succ n ih =>
    intro i r h
    unfold ByteArray.toList.loop
    have hi : i < bs.size := by omega
    rw [if_pos hi, ih (i + 1) _ (by omega)]
    have hd : i < bs.data.toList.length := hi
    rw [List.drop_eq_getElem_cons hd, List.reverse_cons, List.append_assoc]
    congr 1
    show bs.get! i :: _ = _
    congr 1
    show bs.data[i]! = _
    rw [getElem!_pos bs.data i hi]; rfl
theorem pr_toList (bs : ByteArray) : bs.toList = bs.data.toList := by
  unfold ByteArray.toList; rw [pr_loop_len bs _ 0 [] rfl]; rfl
def arrowB (s : ByteArray) : Bool := s.toList == [45, 62] || s.toList == [42]
/-- The texts of an item: ahead of its first kid, between its kids, behind the last. vt: the text of a variable. -/
def itemT (vt : Int → List UInt8) (x : TyI) : List (List UInt8) :=
  if x.name.toList = [] then [vt x.var]
  else if x.arity = 0 then [x.name.toList]
  else if x.arity = 1 then [[40], [41, 32] ++ x.name.toList]
  else if arrowB x.name = true then [[40], [32] ++ x.name.toList ++ [32], [41]]
  else [[40], [44, 32], [41, 32] ++ x.name.toList]
/-- The model's text of the type that begins at a place. -/
def prTy (vt : Int → List UInt8) : Nat → List TyI → Int → List UInt8
  | 0, _, _ => []
  | f + 1, l, a => match l[a.toNat]? with
    | none => []
    | some x =>
      if x.name.toList = [] then vt x.var
      else if x.arity = 0 then x.name.toList
      else if x.arity = 1 then [40] ++ prTy vt f l (a + 1) ++ [41, 32] ++ x.name.toList
      else if arrowB x.name = true then [40] ++ prTy vt f l (a + 1) ++ [32] ++ x.name.toList ++ [32] ++ prTy vt f l (endF f l (a + 1)) ++ [41]
      else [40] ++ prTy vt f l (a + 1) ++ [44, 32] ++ prTy vt f l (endF f l (a + 1)) ++ [41, 32] ++ x.name.toList
/-- The visitor that gathers the pieces. -/
def vPr (vt : Int → List UInt8) (l : List TyI) (s : List (List UInt8)) (a d : Nat) (_ : Int) : Bool × List (List UInt8) :=
  (true, s ++ [match l[a]? with | some x => (itemT vt x)[d]?.getD [] | none => []])
theorem vPr_at (vt : Int → List UInt8) (l : List TyI) (s : List (List UInt8)) (a d : Nat) (n : Int) (h : a < l.length) : vPr vt l s a d n = (true, s ++ [(itemT vt l[a])[d]?.getD []]) := by
  unfold vPr
  rw [List.getElem?_eq_getElem h]
theorem item_arity {x : TyI} (h : itemB x = true) : x.arity = 0 ∨ x.arity = 1 ∨ x.arity = 2 := by
  unfold itemB at h
  split at h
  · simp only [Bool.and_eq_true, decide_eq_true_eq] at h; exact .inl h.2.2
  · split at h
    · split at h
      · exact .inr (.inr (by simpa using h))
      · split at h
        · exact .inr (.inl (by simpa using h))
        · simp only [Bool.and_eq_true, decide_eq_true_eq] at h; omega
    · cases h
theorem item_name {x : TyI} (h : itemB x = true) : x.name.toList.length ≤ 12 := by
  unfold itemB at h
  split at h
  · next hn => rw [hn]; simp
  · split at h
    · split at h
      · next hn => rcases hn with hn | hn <;> rw [hn] <;> simp
      · split at h
        · next hn => rw [hn]; simp
        · simp only [Bool.and_eq_true, decide_eq_true_eq] at h
          have hw := h.1
          unfold nameB wordB lenB at hw
          simp only [Bool.and_eq_true, decide_eq_true_eq] at hw
          rw [pr_toList]
          exact hw.1.1.2
    · cases h
theorem item_var {x : TyI} (h : itemB x = true) (hn : x.name.toList = []) : 0 ≤ x.var ∧ x.var ≤ 9999 ∧ x.arity = 0 := by
  unfold itemB at h
  rw [if_pos hn] at h
  simp only [Bool.and_eq_true, decide_eq_true_eq] at h
  exact ⟨h.1, h.2.1, h.2.2⟩
/-- What the walk gathers. -/
def Woven (vt : Int → List UInt8) (l : List TyI) (f : Nat) (a : Int) (P : List (List UInt8)) : Prop :=
  P.flatten = prTy vt f l a ∧ (P.flatten.length : Int) ≤ 40 * (endF f l a - a) ∧ (P.length : Int) ≤ 3 * (endF f l a - a)
theorem pr_walk (vt : Int → List UInt8) (hvt : ∀ v, 0 ≤ v → v ≤ 9999 → (vt v).length ≤ 22) (l : List TyI) (hall : ∀ x ∈ l, itemB x = true) :
    ∀ (f : Nat) (a : Int) (s : List (List UInt8)), 0 ≤ a → 0 ≤ endF f l a → ∃ P, walkS (vPr vt l) (l.map TyI.arity) f s a = (endF f l a, s ++ P) ∧ Woven vt l f a P := by
  intro f
  induction f with
  | zero => intro a s _ h; simp [endF] at h
  | succ f ih =>
    intro a s ha h
    obtain ⟨n, rfl⟩ : ∃ n : Nat, a = n := ⟨a.toNat, by omega⟩
    have hlt : n < l.length := by
      by_cases hc : n < l.length
      · exact hc
      · rw [endF_out _ _ _ (.inr (by omega))] at h; omega
    have hx := hall l[n] (List.getElem_mem hlt)
    have har := item_arity hx
    have hnm := item_name hx
    have hvar := item_var hx
    rw [walkS_in _ _ _ _ _ (by simpa using hlt)]
    simp only [vPr_at vt l _ n _ _ hlt, if_true, List.getElem_map]
    rw [endF_in f l n hlt] at h
    have hpr : ∀ P : List (List UInt8), Woven vt l (f + 1) n P ↔ (P.flatten = (if l[n].name.toList = [] then vt l[n].var
      else if l[n].arity = 0 then l[n].name.toList
      else if l[n].arity = 1 then [40] ++ prTy vt f l ((n : Int) + 1) ++ [41, 32] ++ l[n].name.toList
      else if arrowB l[n].name = true then [40] ++ prTy vt f l ((n : Int) + 1) ++ [32] ++ l[n].name.toList ++ [32] ++ prTy vt f l (endF f l ((n : Int) + 1)) ++ [41]
      else [40] ++ prTy vt f l ((n : Int) + 1) ++ [44, 32] ++ prTy vt f l (endF f l ((n : Int) + 1)) ++ [41, 32] ++ l[n].name.toList)
        ∧ (P.flatten.length : Int) ≤ 40 * (iterE (endF f l) l[n].arity.toNat ((n : Int) + 1) - n) ∧ (P.length : Int) ≤ 3 * (iterE (endF f l) l[n].arity.toNat ((n : Int) + 1) - n)) := by
      intro P
      unfold Woven
      rw [endF_in f l n hlt, prTy, Int.toNat_natCast, List.getElem?_eq_getElem hlt]
    simp only [hpr, endF_in f l n hlt]
    clear hpr hall
    generalize l[n] = x at *
    rcases har with h0 | h1 | h2
    · rw [h0]
      refine ⟨[(itemT vt x)[0]?.getD []], by simp [iterS, iterE], ?_⟩
      by_cases hn : x.name.toList = []
      · have := hvt x.var (hvar hn).1 (hvar hn).2.1
        simp [itemT, hn, iterE]; omega
      · simp [itemT, hn, h0, iterE]; omega
    · have hn : x.name.toList ≠ [] := fun e => by have := (hvar e).2.2; omega
      rw [h1] at h ⊢
      have e1 : (1 : Int).toNat = 1 := rfl
      rw [e1, iterE, if_neg (by omega)] at h
      simp only [iterE] at h
      obtain ⟨P, hP, hW1, hW2, hW3⟩ := ih ((n : Int) + 1) (s ++ [(itemT vt x)[0]?.getD []]) (by omega) h
      rw [e1]
      have hnl : ¬ endF f l ((n : Int) + 1) < 0 := by omega
      rw [iterS_yes (r := endF f l ((n : Int) + 1)) (s2 := s ++ [(itemT vt x)[0]?.getD []] ++ P) (s3 := s ++ [(itemT vt x)[0]?.getD []] ++ P ++ [(itemT vt x)[1]?.getD []]) hP hnl (by rfl)]
      refine ⟨[(itemT vt x)[0]?.getD []] ++ P ++ [(itemT vt x)[1]?.getD []], ?_, ?_, ?_, ?_⟩
      · rw [iterE, if_neg (by omega)]; simp [iterS, iterE]
      · simp [itemT, hn, h1, hW1]
      · rw [iterE, if_neg (by omega)]; simp [itemT, hn, h1, iterE] at hW2 ⊢; omega
      · rw [iterE, if_neg (by omega)]; simp [iterE] at hW3 ⊢; omega
    · have hn : x.name.toList ≠ [] := fun e => by have := (hvar e).2.2; omega
      rw [h2] at h ⊢
      have e1 : (2 : Int).toNat = 2 := rfl
      rw [e1, iterE, if_neg (by omega)] at h
      have hq : 0 ≤ endF f l ((n : Int) + 1) := by
        by_cases hc : 0 ≤ endF f l ((n : Int) + 1)
        · exact hc
        · rw [iterE, if_pos (by omega)] at h; omega
      rw [iterE, if_neg (by omega)] at h
      simp only [iterE] at h
      obtain ⟨P, hP, hW1, hW2, hW3⟩ := ih ((n : Int) + 1) (s ++ [(itemT vt x)[0]?.getD []]) (by omega) hq
      obtain ⟨P2, hP2, hV1, hV2, hV3⟩ := ih (endF f l ((n : Int) + 1)) (s ++ [(itemT vt x)[0]?.getD []] ++ P ++ [(itemT vt x)[1]?.getD []]) hq h
      rw [e1]
      have hnl : ¬ endF f l ((n : Int) + 1) < 0 := by omega
      have hnl2 : ¬ endF f l (endF f l ((n : Int) + 1)) < 0 := by omega
      rw [iterS_yes (r := endF f l ((n : Int) + 1)) (s2 := s ++ [(itemT vt x)[0]?.getD []] ++ P) (s3 := s ++ [(itemT vt x)[0]?.getD []] ++ P ++ [(itemT vt x)[1]?.getD []]) hP hnl (by rfl),
        iterS_yes (r := endF f l (endF f l ((n : Int) + 1))) (s2 := s ++ [(itemT vt x)[0]?.getD []] ++ P ++ [(itemT vt x)[1]?.getD []] ++ P2) (s3 := s ++ [(itemT vt x)[0]?.getD []] ++ P ++ [(itemT vt x)[1]?.getD []] ++ P2 ++ [(itemT vt x)[2]?.getD []]) hP2 hnl2 (by rfl)]
      refine ⟨[(itemT vt x)[0]?.getD []] ++ P ++ [(itemT vt x)[1]?.getD []] ++ P2 ++ [(itemT vt x)[2]?.getD []], ?_, ?_, ?_, ?_⟩
      · rw [iterE, if_neg (by omega), iterE, if_neg (by omega)]; simp [iterS, iterE]
      · cases hab : arrowB x.name <;> simp [itemT, hn, h2, hab, hW1, hV1]
      · rw [iterE, if_neg (by omega), iterE, if_neg (by omega)]
        cases hab : arrowB x.name <;> simp [itemT, hn, h2, hab, iterE] at hW2 hV2 ⊢ <;> omega
      · rw [iterE, if_neg (by omega), iterE, if_neg (by omega)]; simp [iterE] at hW3 hV3 ⊢; omega
/-- Of a right type. -/
theorem pr_ok (vt : Int → List UInt8) (hvt : ∀ v, 0 ≤ v → v ≤ 9999 → (vt v).length ≤ 22) (l : List TyI) (h : tyOkB l = true) :
    ∃ P, walkS (vPr vt l) (l.map TyI.arity) (l.length + 1) [] 0 = ((l.length : Int), P) ∧ P.flatten = prTy vt (l.length + 1) l 0 ∧ P.flatten.length ≤ 8000 ∧ P.length ≤ 600 := by
  unfold tyOkB at h
  simp only [Bool.and_eq_true, decide_eq_true_eq] at h
  obtain ⟨h0, h1, h2⟩ := h
  obtain ⟨P, hP, hW1, hW2, hW3⟩ := pr_walk vt hvt l (fun x hx => List.all_eq_true.1 h1 x hx) (l.length + 1) 0 [] (Int.le_refl _) (by rw [h2]; omega)
  rw [h2] at hP hW2 hW3
  exact ⟨P, by simpa using hP, hW1, by omega, by omega⟩
end Go.Proofs.YtaibgnfjjbncpaaGreat
namespace Go.Proofs.YtaibgnfjjbncpaaGreat
set_option linter.unusedVariables false
open Go.RowKit

def W (n : Int) : Int := wrap64 (n * 2) / 2

theorem W_eq (n : Int) : W n = (n + 4611686018427387904) % 9223372036854775808 - 4611686018427387904 := by
  unfold W wrap64; omega
theorem W_range (n : Int) : -4611686018427387904 ≤ W n ∧ W n ≤ 4611686018427387903 := by rw [W_eq]; omega
theorem W_of (n : Int) (h : -4611686018427387904 ≤ n ∧ n ≤ 4611686018427387903) : W n = n := by rw [W_eq]; omega
theorem W_wrap (n : Int) : W (wrap64 n) = W n := by rw [W_eq, W_eq]; unfold wrap64; omega
theorem W_zero : W 0 = 0 := W_of _ (by omega)
theorem W_W (n : Int) : W (W n) = W n := W_of _ (W_range n)
theorem W_cong {a b : Int} (h : a % 9223372036854775808 = b % 9223372036854775808) : W a = W b := by rw [W_eq, W_eq]; omega
theorem W_mod (n : Int) : W n % 9223372036854775808 = n % 9223372036854775808 := by rw [W_eq]; omega
theorem W_add (a b : Int) : W (W a + W b) = W (a + b) := by
  apply W_cong; have := W_mod a; have := W_mod b; omega
theorem W_sub (a b : Int) : W (W a - W b) = W (a - b) := by
  apply W_cong; have := W_mod a; have := W_mod b; omega
theorem W_mul (a b : Int) : W (W a * W b) = W (a * b) := by
  apply W_cong; rw [Int.mul_emod, W_mod a, W_mod b, ← Int.mul_emod]
theorem W_mul_l (a b : Int) : W (W a * b) = W (a * b) := by
  apply W_cong; rw [Int.mul_emod, W_mod a, ← Int.mul_emod]
theorem W_add_l (a b : Int) : W (W a + b) = W (a + b) := by
  apply W_cong; have := W_mod a; omega
theorem W_add_r (a b : Int) : W (a + W b) = W (a + b) := by
  apply W_cong; have := W_mod b; omega
theorem wrap64_small (n : Int) (h : -9223372036854775808 ≤ n ∧ n ≤ 9223372036854775807) : wrap64 n = n := by unfold wrap64; omega
theorem wrap64_range (n : Int) : -9223372036854775808 ≤ wrap64 n ∧ wrap64 n ≤ 9223372036854775807 := by unfold wrap64; omega
theorem W_fits (n : Int) : (Lit.int .i64 (W n)).wf = true := by
  have := W_range n
  simp only [Lit.wf, IntKind.min, IntKind.max, IntKind.signed, IntKind.bits, Bool.and_eq_true, decide_eq_true_eq, if_true]
  omega
def Dv (a b : Int) : Int := W ((W a).tdiv (W b))
def Rm (a b : Int) : Int := (W a).tmod (W b)
theorem tdiv_bd (x y : Int) : (x.tdiv y).natAbs ≤ x.natAbs := by
  rw [Int.natAbs_tdiv]; exact Nat.div_le_self _ _
theorem rem_eq (a b : Int) : wrap64 (W a - wrap64 (wrap64 ((W a).tdiv (W b)) * W b)) = Rm a b := by
  have h1 := W_range a
  have h2 := tdiv_bd (W a) (W b)
  have h3 := Int.mul_tdiv_add_tmod (W a) (W b)
  have h5 : ((W a).tmod (W b)).natAbs ≤ (W a).natAbs := by rw [Int.natAbs_tmod]; exact Nat.mod_le _ _
  have h4 : (W a).tdiv (W b) * W b = W a - (W a).tmod (W b) := by rw [Int.mul_comm]; omega
  rw [wrap64_small ((W a).tdiv (W b)) (by omega), h4]
  unfold Rm
  rw [wrap64_small (W a - (W a).tmod (W b)) (by omega), wrap64_small _ (by omega)]
  omega
theorem emod_two (b p : Int) (hp : 0 < p) : b % (p * 2) = b % p + p * (b / p % 2) := by
  have hd : b / p / 2 = b / (p * 2) := by rw [Int.ediv_ediv, if_neg (by omega)]; omega
  rw [Int.emod_def b (p * 2), Int.emod_def b p, Int.emod_def (b / p) 2, ← hd, Int.mul_sub, Int.mul_assoc]
  omega
theorem bit_step (b : Int) (k : Nat) (h : b / 2 ^ k % 2 = 1) : b % 2 ^ (k + 1) = b % 2 ^ k + 2 ^ k := by
  have hp : (0 : Int) < 2 ^ k := Int.pow_pos (by omega)
  rw [Int.pow_succ, emod_two _ _ hp, h]; omega
theorem bit_stay (b : Int) (k : Nat) (h : ¬ b / 2 ^ k % 2 = 1) : b % 2 ^ (k + 1) = b % 2 ^ k := by
  have h0 : b / 2 ^ k % 2 = 0 := by omega
  have hp : (0 : Int) < 2 ^ k := Int.pow_pos (by omega)
  rw [Int.pow_succ, emod_two _ _ hp, h0]; omega
theorem mul_end (a b : Int) : W (a * (b % 2 ^ 63)) = W (a * b) := by
  apply W_cong
  have : (2 : Int) ^ 63 = 9223372036854775808 := by decide
  rw [this, Int.mul_emod, Int.emod_emod_of_dvd _ (Int.dvd_refl _), ← Int.mul_emod]
theorem and_pow (n : Int) (i : Nat) (m : Int) (h : (BitVec.ofInt 64 m).toNat = 2 ^ i - 1) (hi : i < 63) : bits .and .i64 n m = n % 2 ^ i := by
  have key : (BitVec.ofInt 64 n &&& BitVec.ofInt 64 m).toNat = (n % ((2 ^ 64 : Nat) : Int)).toNat % 2 ^ i := by
    rw [BitVec.toNat_and, BitVec.toNat_ofInt, h, Nat.and_two_pow_sub_one_eq_mod]
  show IntKind.i64.wrap ((BitVec.ofInt 64 n &&& BitVec.ofInt 64 m).toNat : Nat) = n % 2 ^ i
  have hp : (2 : Nat) ^ i ∣ 2 ^ 64 := Nat.pow_dvd_pow 2 (by omega)
  have hlt : (2 : Nat) ^ i ≤ 2 ^ 62 := Nat.pow_le_pow_right (by decide) (by omega)
  have h0 : 0 < (2 : Nat) ^ i := Nat.two_pow_pos i
  have h1 : (((n % ((2 ^ 64 : Nat) : Int)).toNat % 2 ^ i : Nat) : Int) = n % 2 ^ i := by
    rw [Int.natCast_emod, Int.toNat_of_nonneg (Int.emod_nonneg _ (by decide))]
    have hq : ((2 : Int) ^ i) = ((2 ^ i : Nat) : Int) := by simp
    rw [hq, Int.emod_emod_of_dvd _ (Int.natCast_dvd_natCast.mpr hp)]
  rw [key, h1, IntKind.wrap_i64]
  have hq : ((2 : Int) ^ i) = ((2 ^ i : Nat) : Int) := by simp
  have h2 := Int.emod_nonneg n (b := (2 : Int) ^ i) (by rw [hq]; omega)
  have h3 := Int.emod_lt_of_pos n (b := (2 : Int) ^ i) (by rw [hq]; omega)
  have h62 : (2 : Nat) ^ 62 = 4611686018427387904 := by decide
  have h4 : (2 : Int) ^ i ≤ 4611686018427387904 := by
    rw [hq]; rw [h62] at hlt; omega
  omega
theorem and1 (n : Int) : bits .and .i64 n 1 = n % 2 := by
  exact and_pow n 1 1 (by decide) (by decide)
end Go.Proofs.YtaibgnfjjbncpaaGreat
namespace Go.Proofs.YtaibgnfjjbncpaaGreat
set_option linter.unusedVariables false
open Go.ChangeShapes Go.WideShapes Go.ChangeAt Go.RowKit

theorem ret_int {k : IntKind} {a b : Int} (h : a = b) : Ending.returned (.int k a) = .returned (.int k b) := by rw [h]

theorem ret_ib {k : IntKind} {a b : Int} {c : Bool} (h : a = b) : Ending.returned (.tuple #[.int k a, .bool c]) = .returned (.tuple #[.int k b, .bool c]) := by rw [h]

theorem sWrap (n : Int) (w : World) :
    Calls Tryz.prog 95 #[.int .i64 n] w fun e w' => e = .returned (.int .i64 (W n)) ∧ w = w' := by
  go_enter Tryz.func95, Tryz.ntmps95
  go_wp2
  go_ret
  exact ⟨rfl, rfl⟩

end Go.Proofs.YtaibgnfjjbncpaaGreat
namespace Go.Proofs.YtaibgnfjjbncpaaGreat
set_option linter.unusedVariables false
open Go.ChangeShapes Go.WideShapes Go.ChangeAt Go.RowKit

theorem var_below {P : Program} {n : String} {v : Array Value} {w w' : World} (h : w.var? P n = some v) (hb : Below w.heap.size w w') : w'.var? P n = some v := by
  unfold World.var? at h ⊢
  cases hg : P.globalNamed n with
  | none => rw [hg] at h; exact h
  | some g =>
    rw [hg] at h
    simp only [Option.bind_some] at h ⊢
    by_cases hlt : g < w.heap.size
    · rw [hb.block g hlt]; exact h
    · have : w.heap[g]? = none := by simp; omega
      rw [this] at h; cases h
theorem tab_below {w w' : World} {n : String} {k : IntKind} {zs : List Int} (h : Lib.TabIs Tryz.prog w n k zs) (hb : Below w.heap.size w w') : Lib.TabIs Tryz.prog w' n k zs := var_below h hb
def numL (n : Int) : List UInt8 := if W n = n then Lib.itoa n else []
theorem grow_below (w : World) (k : Nat) (os : Array Obj) : Below w.heap.size w (Go.Sort.grow (w.drewN k) os) :=
  ⟨rfl, rfl, rfl, by simp [Go.Sort.grow, World.drewN], fun i hi => by
    show (w.heap ++ os)[i]? = _
    rw [Array.getElem?_append_left hi]⟩
theorem ret_str {a b : ByteArray} (h : a = b) : Ending.returned (.string a) = .returned (.string b) := by rw [h]
theorem str_app (a b : List UInt8) : (⟨a.toArray⟩ : ByteArray) ++ ⟨b.toArray⟩ = ⟨(a ++ b).toArray⟩ := by
  have : ∀ x y : ByteArray, (x ++ y).data = x.data ++ y.data := fun x y => ByteArray.data_append
  apply ByteArray.ext; rw [this]; simp
theorem digit_of (c : Int) (W : World) (n : Nat) (hc : W.cell? ⟨n, 0, none⟩ = some (.int .u8 c)) (d : Nat) (h0 : 0 ≤ c) (h1 : c ≤ 255) (hd : c = (d : Int)) :
    (convert 133 9 (.slice (some ⟨n, 0, none⟩) 1 1)).run Tryz.prog W = .ok (.string ⟨#[UInt8.ofNat d]⟩) W := by
  subst hd
  refine run_convert_bytes_back W 133 9 5 ⟨n, 0, none⟩ 1 [UInt8.ofNat d] Tryz.underlying133 Tryz.underlying5 Tryz.underlying9 fun j hj => ?_
  obtain rfl : j = 0 := by simpa using hj
  rw [add_zero_off, hc]
  simp only [List.getElem_cons_zero, UInt8.toNat_ofNat']
  congr 2
  omega

theorem digits_len (u : Nat) (h : u < 18446744073709551616) : (Lib.decDigits u).length ≤ 20 := by
  rw [Lib.decDigits_eq]; simpa using Lib.nDigits_le20 u h
theorem l01Digits : ∀ (N m : Nat) (w : World), m < N → m ≤ 9223372036854775808 →
    Calls Tryz.prog 96 #[.int .i64 (-(m : Int))] w fun e w' => e = .returned (.string ⟨(Lib.decDigits m).toArray⟩) ∧ Below w.heap.size w w'
  | 0, m, w, h, _ => absurd h (by omega)
  | N + 1, m, w, h, hm => by
    by_cases h10 : m < 10
    · have hcv := fun (W : World) (n : Nat) (hc : W.cell? ⟨n, 0, none⟩ = some (.int .u8 (48 + (m : Int)))) => digit_of _ W n hc (48 + m) (by omega) (by omega) (by omega)
      have hd : Lib.decDigits m = [UInt8.ofNat (48 + m)] := by rw [Lib.decDigits, dif_pos h10]
      have HD := Lib.hid hd
      clear hd
      go_enter Tryz.func96, Tryz.ntmps96
      go_wp2
      go_ret
      exact ⟨by rw [HD.out]; exact ret_str (by rw [UInt8.ofNat_add]; rfl), (Below.refl _ _).alloc (Nat.le_refl _) _⟩
    · have ih : ∀ W : World, Calls Tryz.prog 96 #[.int .i64 (-((m : Int) / 10))] W fun e w' => e = .returned (.string ⟨(Lib.decDigits (m / 10)).toArray⟩) ∧ Below W.heap.size W w' := fun W => by
        have h := l01Digits N (m / 10) W (by omega) (by omega)
        rw [show ((m / 10 : Nat) : Int) = (m : Int) / 10 from by omega] at h
        exact h
      have hcv := fun (W : World) (n : Nat) (hc : W.cell? ⟨n, 0, none⟩ = some (.int .u8 (48 + (m : Int) % 10))) => digit_of _ W n hc (48 + m % 10) (by omega) (by omega) (by omega)
      have hq : IntKind.i64.wrap (-((m : Int) / 10)) = -((m : Int) / 10) := IntWalk.i64_in _ (by omega)
      have hr : (m : Int).tmod 10 = (m : Int) % 10 := Int.tmod_eq_emod_of_nonneg (by omega)
      have hw : IntKind.i64.wrap (48 + (m : Int) % 10) = 48 + (m : Int) % 10 := IntWalk.i64_in _ (by omega)
      have hw2 : IntKind.u8.wrap (48 + (m : Int) % 10) = 48 + (m : Int) % 10 := IntWalk.u8_in _ (by omega)
      have hd : Lib.decDigits m = Lib.decDigits (m / 10) ++ [UInt8.ofNat (48 + m % 10)] := by rw [Lib.decDigits, dif_neg h10]
      have hlen : (Lib.decDigits (m / 10)).length + 1 ≤ 9223372036854775807 := by have := digits_len (m / 10) (by omega); omega
      have HD := Lib.hid hd
      clear hd
      go_enter Tryz.func96, Tryz.ntmps96
      go_wp2_with fail
      go_region_with ((go_at_call 96; refine (ih _).mono ?_; rintro e w1 ⟨rfl, hb⟩; have hk := fun h => hb.cell (p := ⟨w.heap.size, 0, none⟩) h))
      all_goals
        go_wp2
        go_ret
        refine ⟨by rw [HD.out]; exact ret_str (by rw [UInt8.ofNat_add]; exact str_app _ [_]), ?_⟩
        first
        | exact ((Below.refl w.heap.size w).drew.trans hb).alloc (by have := hb.size; simpa using this) _
        | exact (((Below.refl w.heap.size w).drew.trans hb).alloc (by have := hb.size; simpa using this) _).drew
        | exact (((Below.refl w.heap.size w).alloc (Nat.le_refl _) _).drew).trans (hb.mono (by simp))
        | exact ((((Below.refl w.heap.size w).alloc (Nat.le_refl _) _).drew).trans (hb.mono (by simp))).drew

theorem sNumText (n : Int) (w : World) (h : -9223372036854775808 ≤ n ∧ n ≤ 9223372036854775807) :
    Calls Tryz.prog 60 #[.int .i64 n] w fun e w' => e = .returned (.string ⟨(numL n).toArray⟩) ∧ Below w.heap.size w w' := by
  by_cases hn : W n = n
  · have HN := Lib.hid hn
    have t1 : (W n != n) = false := by simpa using hn
    have hb := W_range n
    rw [hn] at hb
    clear hn
    by_cases h0 : n < 0
    · have HI : Hid (Lib.itoa n = 45 :: Lib.decDigits n.natAbs) := by show _ = _; rw [Lib.itoa, if_pos h0]
      have hc : ∀ W : World, Calls Tryz.prog 96 #[.int .i64 n] W fun e w' => e = .returned (.string ⟨(Lib.decDigits n.natAbs).toArray⟩) ∧ Below W.heap.size W w' := fun W => by
        have h := l01Digits (n.natAbs + 1) n.natAbs W (by omega) (by omega)
        rw [show -((n.natAbs : Nat) : Int) = n from by omega] at h
        exact h
      have hlen := digits_len n.natAbs (by omega)
      go_enter Tryz.func60, Tryz.ntmps60
      go_wp2_with (first | (go_at_call 95; refine (sWrap _ _).mono ?_; rintro e w' ⟨rfl, rfl⟩) | (go_at_call 96; refine (hc _).mono ?_; rintro e w' ⟨rfl, hb⟩))
      go_ret
      exact ⟨by rw [numL, if_pos HN.out, HI.out]; exact ret_str (str_app [45] _), hb⟩
    · have HI : Hid (Lib.itoa n = Lib.decDigits n.toNat) := by show _ = _; rw [Lib.itoa, if_neg h0]
      have hc : ∀ W : World, Calls Tryz.prog 96 #[.int .i64 (-n)] W fun e w' => e = .returned (.string ⟨(Lib.decDigits n.toNat).toArray⟩) ∧ Below W.heap.size W w' := fun W => by
        have h := l01Digits (n.toNat + 1) n.toNat W (by omega) (by omega)
        rw [show -((n.toNat : Nat) : Int) = -n from by omega] at h
        exact h
      go_enter Tryz.func60, Tryz.ntmps60
      go_wp2_with (first | (go_at_call 95; refine (sWrap _ _).mono ?_; rintro e w' ⟨rfl, rfl⟩) | (go_at_call 96; refine (hc _).mono ?_; rintro e w' ⟨rfl, hb⟩))
      go_ret
      exact ⟨by rw [numL, if_pos HN.out, HI.out]; rfl, hb⟩
  · have HN := Lib.hid hn
    have t1 : (W n != n) = true := by simpa using hn
    clear hn
    go_enter Tryz.func60, Tryz.ntmps60
    go_wp2_with (go_at_call 95; refine (sWrap _ _).mono ?_; rintro e w' ⟨rfl, rfl⟩)
    go_ret
    exact ⟨by rw [numL, if_neg HN.out]; rfl, Below.refl _ _⟩
end Go.Proofs.YtaibgnfjjbncpaaGreat
namespace Go.Proofs.YtaibgnfjjbncpaaGreat
set_option linter.unusedVariables false
set_option maxRecDepth 100000
open Go.ChangeShapes Go.WideShapes Go.ChangeAt Go.RowKit

/-- The text of a variable. -/
def varL (v : Int) : List UInt8 := if 25 < v then [39, 122] ++ numL v else [39, UInt8.ofNat (97 + v.toNat)]
theorem numL_len (v : Int) (h0 : 0 ≤ v) (h1 : v ≤ 9999) : (numL v).length ≤ 20 := by
  unfold numL Lib.itoa
  split
  · rw [if_neg (by omega)]; exact digits_len _ (by omega)
  · simp
theorem varL_len (v : Int) (h0 : 0 ≤ v) (h1 : v ≤ 9999) : (varL v).length ≤ 22 := by
  unfold varL
  split
  · have := numL_len v h0 h1; simp; omega
  · simp
theorem sVar (v : Int) (w : World) (h0 : 0 ≤ v) (h1 : v ≤ 9999) :
    Calls Tryz.prog 58 #[.int .i64 v] w fun e w' => e = .returned (.string ⟨(varL v).toArray⟩) ∧ Below w.heap.size w w' := by
  by_cases hv : 25 < v
  · have HB := Lib.hid (show varL v = [39, 122] ++ numL v from by rw [varL, if_pos hv])
    have hN := fun W => sNumText v W (by omega)
    have hl := numL_len v h0 h1
    have hl2 : 2 + (numL v).length ≤ 9223372036854775807 := by omega
    go_enter Tryz.func58, Tryz.ntmps58
    go_wp2_with (go_at_call 60; refine (hN _).mono ?_; rintro e w1 ⟨rfl, hb⟩)
    go_ret
    exact ⟨by rw [HB.out]; exact ret_str (str_app [39, 122] _), hb⟩
  · have HB := Lib.hid (show varL v = [39] ++ [UInt8.ofNat (97 + v.toNat)] from by rw [varL, if_neg hv]; rfl)
    obtain ⟨m, rfl⟩ : ∃ m : Nat, v = m := ⟨v.toNat, by omega⟩
    have hm : m ≤ 25 := by omega
    have hcv := fun (W : World) (n : Nat) (hc : W.cell? ⟨n, 0, none⟩ = some (.int .u8 (97 + (m : Int)))) => digit_of _ W n hc (97 + m) (by omega) (by omega) (by omega)
    have hw : IntKind.i64.wrap (97 + (m : Int)) = 97 + (m : Int) := IntWalk.i64_in _ (by omega)
    have hw2 : IntKind.u8.wrap (97 + (m : Int)) = 97 + (m : Int) := IntWalk.u8_in _ (by omega)
    clear h0 h1
    go_enter Tryz.func58, Tryz.ntmps58
    go_wp2
    go_ret
    exact ⟨by rw [HB.out]; rw [Int.toNat_natCast, UInt8.ofNat_add]; exact ret_str (str_app [39] [_]), (Below.refl _ _).alloc (Nat.le_refl _) _⟩
theorem prTy_len (l : List TyI) (hall : ∀ x ∈ l, itemB x = true) (f : Nat) (a : Int) (h0 : 0 ≤ a) (h : 0 ≤ endF f l a) : ((prTy varL f l a).length : Int) ≤ 40 * (endF f l a - a) := by
  obtain ⟨P, _, h1, h2, _⟩ := pr_walk varL varL_len l hall f a [] h0 h
  rw [← h1]; exact h2
theorem sTyText (l : List TyI) (hall : ∀ x ∈ l, itemB x = true) (hl : l.length ≤ 200) : ∀ (f : Nat) (v : Value) (a : Int) (w : World) (hR : RowRd 3 TyIEl w v l) (ha : 0 ≤ a) (he : 0 ≤ endF f l a) (hf : (l.length : Int) < a + f),
    Calls Tryz.prog 28 #[.agg #[v], .int .i64 a] w fun e w' => e = .returned (.string ⟨(prTy varL f l a).toArray⟩) ∧ Below w.heap.size w w' := by
  intro f
  induction f with
  | zero =>
    intro v a w hR ha he hf
    simp [endF] at he
  | succ f ih =>
    intro v a w hR ha he hf
    have hR0 := hR
    obtain ⟨p, cap, rfl, hm, hR⟩ := hR.form
    obtain ⟨n, rfl⟩ : ∃ n : Nat, a = n := ⟨a.toNat, by omega⟩
    have hn : n < l.length := by
      by_cases hc : n < l.length
      · exact hc
      · rw [endF_out _ _ _ (.inr (by omega))] at he; omega
    obtain ⟨b, o, rfl, hbw, hc⟩ := hR (by omega)
    have ex := hc n hn
    have hx := hall l[n] (List.getElem_mem hn)
    have har := item_arity hx
    have hnm := item_name hx
    have hvar := item_var hx
    have HP := Lib.hid (show prTy varL (f + 1) l (n : Int) = _ from by rw [prTy, Int.toNat_natCast, List.getElem?_eq_getElem hn])
    simp only at HP
    rw [endF_in f l n hn] at he
    have hE := fun w v hR => sEnd f l v ((n : Int) + 1) w hR ⟨by omega, by omega⟩ (.inr (by omega))
    have ih1 := fun w v hR he => ih v ((n : Int) + 1) w hR (by omega) he (by omega)
    have ih2 := fun w v hR (hg : (n : Int) + 1 ≤ endF f l ((n : Int) + 1)) he => ih v (endF f l ((n : Int) + 1)) w hR (by omega) he (by omega)
    have hgt : ∀ k, iterE (endF f l) k ((n : Int) + 1) = -1 ∨ (n : Int) + 1 ≤ iterE (endF f l) k ((n : Int) + 1) := fun k => iter_gt f l k _ (by omega)
    have hlt := iter_le f l 1 ((n : Int) + 1) (by omega)
    have hlt2 := iter_le f l 2 ((n : Int) + 1) (by omega)
    clear hc hR ih
    have hl1 := fun h => prTy_len l hall f ((n : Int) + 1) (by omega) h
    have hl2 := fun h0 h => prTy_len l hall f (endF f l ((n : Int) + 1)) h0 h
    generalize l[n] = x at *
    obtain ⟨⟨e0, i0⟩, ⟨e1, i1⟩, ⟨e2, i2⟩⟩ := ex
    have hns : x.name.size ≤ 12 := by rw [pr_toList] at hnm; exact hnm
    have h2 : (n : Int) < l.length := by omega
    have hap : ∀ (s : ByteArray) (k : List UInt8), s ++ ⟨k.toArray⟩ = ⟨(s.toList ++ k).toArray⟩ := fun s k => by rw [pr_toList]; exact str_app s.data.toList k
    have hself : (⟨x.name.toList.toArray⟩ : ByteArray) = x.name := by rw [pr_toList]
    by_cases hn0 : x.name.toList = []
    · obtain ⟨v0, v1, v2⟩ := hvar hn0
      have h1 : x.name.toList.isEmpty = true := by simp [hn0]
      have HB : Hid (prTy varL (f + 1) l (n : Int) = varL x.var) := by show _ = _; rw [HP.out, if_pos hn0]
      have hV := fun W => sVar x.var W v0 v1
      clear HP hE ih1 ih2 hgt hl1 hl2 hlt hlt2 hn0 he har hvar hap hself
      go_enter Tryz.func28, Tryz.ntmps28
      go_wp2_with (go_at_call 58; refine (hV _).mono ?_; rintro e w1 ⟨rfl, hb⟩)
      go_ret
      exact ⟨by rw [HB.out]; rfl, below_tr (Joins.below_alloc2 w _ _) hb⟩
    have h1 : x.name.toList.isEmpty = false := by simpa using hn0
    have HS := Lib.hid hself
    have HA := Lib.hid hap
    clear hself hap
    rcases har with h0 | har
    · have HB : Hid (prTy varL (f + 1) l (n : Int) = x.name.toList) := by show _ = _; rw [HP.out, if_neg hn0, if_pos h0]
      have t0 : (x.arity == 0) = true := by simpa using h0
      clear HP hE ih1 ih2 hgt hl1 hl2 hlt hlt2 hn0 he hvar h0
      go_enter Tryz.func28, Tryz.ntmps28
      go_wp2
      go_ret
      exact ⟨by rw [HB.out, HS.out]; rfl, Joins.below_alloc2 w _ _⟩
    have t0 : (x.arity == 0) = false := by simp; omega
    have he1 : 0 ≤ endF f l ((n : Int) + 1) := by
      rcases har with h | h
      · rw [h, show (1 : Int).toNat = 1 from rfl, iterE, if_neg (by omega)] at he; simpa only [iterE] using he
      · rw [h, show (2 : Int).toNat = 2 from rfl, iterE, if_neg (by omega)] at he
        by_cases hc : 0 ≤ endF f l ((n : Int) + 1)
        · exact hc
        · rw [iterE, if_pos (by omega)] at he; omega
    have hlA := hl1 he1
    have hT1 := fun W (hK : Kept w W) => Lib.hid (ih1 W _ (hR0.kept TyIEl.st hK) he1)
    have hle1 : endF f l ((n : Int) + 1) ≤ 200 := by
      rw [iterE, if_neg (by omega)] at hlt; simp only [iterE] at hlt; omega
    rcases har with h0 | h0
    · have HB : Hid (prTy varL (f + 1) l (n : Int) = [40] ++ prTy varL f l ((n : Int) + 1) ++ [41, 32] ++ x.name.toList) := by show _ = _; rw [HP.out, if_neg hn0, if_neg (by omega), if_pos h0]
      have ta : (x.arity == 1) = true := by simpa using h0
      generalize prTy varL f l ((n : Int) + 1) = A1 at *
      have hA1 : A1.length ≤ 8000 := by omega
      have hw : IntKind.i64.wrap ((n : Int) + 1) = (n : Int) + 1 := IntWalk.i64_in _ (by omega)
      clear HP hE ih1 ih2 hgt hl1 hl2 hlt hlt2 hn0 he hvar h0 hlA he1 hle1
      go_enter Tryz.func28, Tryz.ntmps28
      go_wp2_with (go_at_call 28; refine (hT1 _ (Kept.al2 _ _ _)).out.mono ?_; rintro e w1 ⟨rfl, hb⟩; obtain ⟨hcl, hfr⟩ := bcell hb)
      go_ret
      refine ⟨by rw [HB.out]; exact ret_str (by simp only [← str_app]; rw [HS.out]), below_tr (Joins.below_alloc2 w _ _) hb⟩
    · have ta : (x.arity == 1) = false := by simp; omega
      have he2 : 0 ≤ endF f l (endF f l ((n : Int) + 1)) := by
        rw [h0, show (2 : Int).toNat = 2 from rfl, iterE, if_neg (by omega), iterE, if_neg (by omega)] at he
        simpa only [iterE] using he
      have hg1 := hgt 1
      rw [iterE, if_neg (by omega)] at hg1
      simp only [iterE] at hg1
      have hle2 : endF f l (endF f l ((n : Int) + 1)) ≤ 200 := by
        rw [iterE, if_neg (by omega), iterE, if_neg (by omega)] at hlt2; simp only [iterE] at hlt2; omega
      have hlB := hl2 he1 he2
      have hT2 := fun W (hK : Kept w W) => Lib.hid (ih2 W _ (hR0.kept TyIEl.st hK) (by omega) he2)
      have hE' := fun W (hK : Kept w W) => Lib.hid (hE W _ (hR0.kept TyIEl.st hK))
      have HB : Hid (prTy varL (f + 1) l (n : Int) = if arrowB x.name = true then [40] ++ prTy varL f l ((n : Int) + 1) ++ [32] ++ x.name.toList ++ [32] ++ prTy varL f l (endF f l ((n : Int) + 1)) ++ [41]
          else [40] ++ prTy varL f l ((n : Int) + 1) ++ [44, 32] ++ prTy varL f l (endF f l ((n : Int) + 1)) ++ [41, 32] ++ x.name.toList) := by show _ = _; rw [HP.out, if_neg hn0, if_neg (by omega), if_neg (by omega)]
      generalize prTy varL f l ((n : Int) + 1) = A1 at *
      generalize prTy varL f l (endF f l ((n : Int) + 1)) = A2 at *
      generalize endF f l ((n : Int) + 1) = m at *
      have hA1 : A1.length ≤ 8000 := by omega
      have hA2 : A2.length ≤ 8000 := by omega
      have hw : IntKind.i64.wrap ((n : Int) + 1) = (n : Int) + 1 := IntWalk.i64_in _ (by omega)
      clear HP hE ih1 ih2 hgt hl1 hl2 hlt hlt2 hn0 he hvar h0 hlA hlB he1 hle1 he2 hle2 hg1
      go_enter Tryz.func28, Tryz.ntmps28
      go_wp2_with (go_at_call 28; refine (hT1 _ (Kept.al2 _ _ _)).out.mono ?_; rintro e w1 ⟨rfl, hb⟩; have hdone := 0; fail)
      refine (hT1 _ (Kept.al2 _ _ _)).out.mono ?_
      rintro e w1 ⟨rfl, hb⟩
      have Bt := below_tr (Joins.below_alloc2 w _ _) hb
      have K1 := Kept.of_below Bt
      have z1 := hb.size
      simp at z1
      have c0 : w1.cell? ⟨w.heap.size, 0, none⟩ = some (.slice (some ⟨b, o, none⟩) l.length cap) := by rw [hb.cell (p := ⟨w.heap.size, 0, none⟩) (by simp; omega)]; simp
      have c1 : w1.cell? ⟨w.heap.size + 1, 1, none⟩ = some (.string x.name) := by rw [hb.cell (p := ⟨w.heap.size + 1, 1, none⟩) (by simp)]; simp
      have c2 : w1.cell? ⟨w.heap.size + 1, 2, none⟩ = some (.int .i64 x.arity) := by rw [hb.cell (p := ⟨w.heap.size + 1, 2, none⟩) (by simp)]; simp
      clear hb hT1 hR hR0 e0 e1 e2
      go_wp2_with fail
      go_region_held3 (fun w' => w'.cell? ⟨w.heap.size, 0, none⟩ = some (.slice (some ⟨b, o, none⟩) l.length cap) ∧ w'.cell? ⟨w.heap.size + 1, 1, none⟩ = some (.string x.name) ∧ Kept w1 w')
        (first | exact ⟨c0, c1, Kept.refl _⟩ | exact ⟨c0, c1, Kept.drew _⟩ | exact ⟨(hbE.cell (p := ⟨w.heap.size, 0, none⟩) (by show w.heap.size < w1.heap.size; omega)).trans c0, (hbE.cell (p := ⟨w.heap.size + 1, 1, none⟩) (by show w.heap.size + 1 < w1.heap.size; omega)).trans c1, (Kept.drew _).trans (Kept.of_below hbE)⟩ | exact ⟨(hbT.cell (p := ⟨w.heap.size, 0, none⟩) (by show w.heap.size < wE.heap.size; have := hbE.size; simp at this; omega)).trans ((hbE.cell (p := ⟨w.heap.size, 0, none⟩) (by show w.heap.size < w1.heap.size; omega)).trans c0), (hbT.cell (p := ⟨w.heap.size + 1, 1, none⟩) (by show w.heap.size + 1 < wE.heap.size; have := hbE.size; simp at this; omega)).trans ((hbE.cell (p := ⟨w.heap.size + 1, 1, none⟩) (by show w.heap.size + 1 < w1.heap.size; omega)).trans c1), ((Kept.drew _).trans (Kept.of_below hbE)).trans (Kept.of_below hbT)⟩)
        (first | (go_at_call 59; refine (hE' _ (K1.trans (by first | exact Kept.drew _ | exact Kept.refl _))).out.mono ?_; rintro e wE ⟨rfl, hbE⟩) | (go_at_call 28; refine (hT2 _ ((K1.trans (Kept.drew _)).trans (Kept.of_below hbE))).out.mono ?_; rintro e wT ⟨rfl, hbT⟩))
      have Bx : Below w.heap.size w wT := below_tr Bt ((Below.refl _ _).drew.trans (hbE.trans (hbT.mono hbE.size)))
      have x1 : wT.cell? ⟨w.heap.size + 1, 1, none⟩ = some (.string x.name) := (hbT.cell (p := ⟨w.heap.size + 1, 1, none⟩) (by show w.heap.size + 1 < wE.heap.size; have := hbE.size; simp at this; omega)).trans ((hbE.cell (p := ⟨w.heap.size + 1, 1, none⟩) (by show w.heap.size + 1 < w1.heap.size; omega)).trans c1)
      clear c0 c1 c2 K1 Bt hbE hbT hE' hT2
      cases hab : arrowB x.name
      · rw [hab] at HB
        have HB' : Hid (prTy varL (f + 1) l (n : Int) = [40] ++ A1 ++ [44, 32] ++ A2 ++ [41, 32] ++ x.name.toList) := HB
        simp only [arrowB, Bool.or_eq_false_iff] at hab
        obtain ⟨q1, q2⟩ := hab
        clear HB
        go_wp2
        go_ret
        refine ⟨by rw [HB'.out]; exact ret_str (by simp only [← str_app]; rw [HS.out]), Bx⟩
      · rw [hab] at HB
        have HB' : Hid (prTy varL (f + 1) l (n : Int) = [40] ++ A1 ++ [32] ++ x.name.toList ++ [32] ++ A2 ++ [41]) := HB
        simp only [arrowB, Bool.or_eq_true] at hab
        clear HB
        by_cases q1 : (x.name.toList == [45, 62]) = true
        · clear hab
          go_wp2
          go_ret
          refine ⟨by rw [HB'.out]; exact ret_str (by simp only [← str_app]; rw [HS.out]), Bx⟩
        · have q2 : (x.name.toList == [42]) = true := hab.resolve_left q1
          have q1' : (x.name.toList == [45, 62]) = false := by simpa using q1
          clear hab q1
          go_wp2
          go_ret
          refine ⟨by rw [HB'.out]; exact ret_str (by simp only [← str_app]; rw [HS.out]), Bx⟩
/-- What PrintTy answers. -/
def prTyRes (l : List TyI) : ByteArray := if tyOkB l = true then ⟨(prTy varL (l.length + 1) l 0).toArray⟩ else ⟨#[]⟩
theorem tyOk_parts {l : List TyI} (h : tyOkB l = true) : (∀ x ∈ l, itemB x = true) ∧ l.length ≤ 200 ∧ endF (l.length + 1) l 0 = l.length := by
  unfold tyOkB at h
  simp only [Bool.and_eq_true, decide_eq_true_eq] at h
  obtain ⟨h0, h1, h2⟩ := h
  exact ⟨fun x hx => List.all_eq_true.1 h1 x hx, by omega, h2⟩
end Go.Proofs.YtaibgnfjjbncpaaGreat
namespace Go.Proofs.YtaibgnfjjbncpaaGreat
set_option linter.unusedVariables false
open Go.Lib

def isDig (c : UInt8) : Prop := 48 ≤ c.toNat ∧ c.toNat ≤ 57
/-- The value of a row of digits, read from the left, behind a. -/
def decV (a : Nat) (l : List UInt8) : Nat := l.foldl (fun a c => a * 10 + (c.toNat - 48)) a
theorem decV_snoc (a : Nat) (l : List UInt8) (c : UInt8) : decV a (l ++ [c]) = decV a l * 10 + (c.toNat - 48) := by simp [decV]
theorem dig_toNat (d : Nat) (h : d < 10) : (UInt8.ofNat (48 + d)).toNat = 48 + d := by
  rw [UInt8.toNat_ofNat']; omega
theorem digits_rec {p : Nat → List UInt8 → Prop} (h0 : ∀ u, u < 10 → p u [UInt8.ofNat (48 + u)]) (h1 : ∀ u, ¬ u < 10 → p (u / 10) (decDigits (u / 10)) → p u (decDigits (u / 10) ++ [UInt8.ofNat (48 + u % 10)])) :
    ∀ (N u : Nat), u < N → p u (decDigits u)
  | 0, u, h => absurd h (by omega)
  | N + 1, u, h => by
    rw [decDigits]
    split
    · rename_i h10; exact h0 u h10
    · rename_i h10; exact h1 u h10 (digits_rec h0 h1 N (u / 10) (by omega))
theorem decV_digits (u : Nat) : decV 0 (decDigits u) = u := by
  refine digits_rec (p := fun u l => decV 0 l = u) ?_ ?_ (u + 1) u (by omega)
  · intro u h; simp [decV]; omega
  · intro u _ ih; rw [decV_snoc, ih, dig_toNat _ (by omega)]; omega
theorem digits_dig (u : Nat) : ∀ c ∈ decDigits u, isDig c := by
  refine digits_rec (p := fun u l => ∀ c ∈ l, isDig c) ?_ ?_ (u + 1) u (by omega)
  · intro u h c hc; obtain rfl := List.mem_singleton.1 hc; unfold isDig; rw [dig_toNat u h]; omega
  · intro u _ ih c hc
    rcases List.mem_append.1 hc with h | h
    · exact ih c h
    · obtain rfl := List.mem_singleton.1 h; unfold isDig; rw [dig_toNat _ (by omega)]; omega
theorem digits_ne (u : Nat) : decDigits u ≠ [] := by
  rw [decDigits]; split <;> simp
theorem decV_mono (l : List UInt8) : ∀ a, a ≤ decV a l := by
  induction l with
  | nil => intro a; exact Nat.le_refl _
  | cons c l ih => intro a; have := ih (a * 10 + (c.toNat - 48)); simp only [decV, List.foldl_cons] at *; omega
theorem decV_ten (l : List UInt8) (hl : l ≠ []) : ∀ a, a * 10 ≤ decV a l := by
  intro a
  cases l with
  | nil => exact absurd rfl hl
  | cons c l => have := decV_mono l (a * 10 + (c.toNat - 48)); simp only [decV, List.foldl_cons] at *; omega
theorem decV_take (l : List UInt8) (k : Nat) (hk : k < l.length) : decV 0 (l.take k) * 10 ≤ decV 0 l := by
  have h : decV 0 l = decV (decV 0 (l.take k)) (l.drop k) := by
    unfold decV; rw [← List.foldl_append, List.take_append_drop]
  rw [h]; exact decV_ten _ (by intro e; have := congrArg List.length e; simp at this; omega) _

theorem parse_digits (l : List UInt8) (hd : ∀ c ∈ l, isDig c) : ∀ a, decV a l < 18446744073709551616 → parseUint10 a l = .ok (decV a l) := by
  induction l with
  | nil => intro a _; rfl
  | cons c l ih =>
    intro a h
    have hc := hd c (by simp)
    unfold isDig at hc
    have h2 : decV a (c :: l) = decV (a * 10 + (c.toNat - 48)) l := rfl
    have h3 := decV_mono l (a * 10 + (c.toNat - 48))
    rw [h2] at h ⊢
    rw [parseUint10, if_pos hc, if_neg (by omega), if_neg (by omega)]
    exact ih (fun x hx => hd x (by simp [hx])) _ h
theorem parseMag_digits (u : Nat) (h : u < 18446744073709551616) : parseMag (decDigits u) = .ok u := by
  unfold parseMag; rw [if_neg (digits_ne u), parse_digits _ (digits_dig u) 0 (by rw [decV_digits]; exact h), decV_digits]
theorem head_dig (u : Nat) : ∃ c r, decDigits u = c :: r ∧ isDig c := by
  cases h : decDigits u with
  | nil => exact absurd h (digits_ne u)
  | cons c r => exact ⟨c, r, rfl, digits_dig u c (by rw [h]; simp)⟩
theorem atoi_range (l : List UInt8) (v : Int) (h : atoiAll l = .ok v) : -9223372036854775808 ≤ v ∧ v ≤ 9223372036854775807 := by
  cases l with
  | nil => cases h
  | cons c r =>
    simp only [atoiAll] at h
    cases hm : parseMag (if c.toNat = 43 ∨ c.toNat = 45 then r else c :: r) with
    | ok u =>
      rw [hm] at h
      simp only at h
      split at h
      · cases h
      · split at h
        · cases h
        · injection h with h
          split at h <;> omega
    | _ => rw [hm] at h; cases h
/-- A numeral is read as its number. -/
theorem atoi_cons (c : UInt8) (r : List UInt8) (u : Nat) (h : parseMag (if c.toNat = 43 ∨ c.toNat = 45 then r else c :: r) = .ok u) (hu : u < 9223372036854775808) :
    atoiAll (c :: r) = .ok (if c.toNat = 45 then -(u : Int) else u) := by
  simp only [atoiAll]
  rw [h]
  simp only
  rw [if_neg (by omega), if_neg (by omega)]
/-- A numeral is read as its number. -/
theorem atoi_itoa (v : Int) (h : -4611686018427387904 ≤ v ∧ v ≤ 4611686018427387903) : atoiAll (itoa v) = .ok v := by
  unfold itoa
  split
  · rename_i hn
    have hm := parseMag_digits v.natAbs (by omega)
    rw [atoi_cons 45 _ v.natAbs (by rw [if_pos (by decide)]; exact hm) (by omega), if_pos (by decide)]
    congr 1; omega
  · rename_i hn
    have hm := parseMag_digits v.toNat (by omega)
    obtain ⟨c, r, hcr, hc⟩ := head_dig v.toNat
    unfold isDig at hc
    rw [hcr] at hm ⊢
    rw [atoi_cons c r v.toNat (by rw [if_neg (by omega)]; exact hm) (by omega), if_neg (by omega)]
    congr 1; omega
end Go.Proofs.YtaibgnfjjbncpaaGreat
namespace Go.Proofs.YtaibgnfjjbncpaaGreat
set_option linter.unusedVariables false
set_option maxRecDepth 100000
open Go.RowKit

/-- A byte at which a word ends. -/
def dl (c : UInt8) : Bool := c == 32 || c == 41 || c == 44 || c == 59
def Dlm (r : List UInt8) : Prop := ∀ c t, r = c :: t → dl c = true
def Wd (t : List UInt8) : Prop := ∀ c ∈ t, dl c = false
theorem Dlm.nil : Dlm [] := fun c t h => by cases h
theorem Dlm.cons {c : UInt8} {t : List UInt8} (h : dl c = true) : Dlm (c :: t) := fun c' t' e => by cases e; exact h
/-- Words are told apart from what stands behind. -/
theorem wd_split : ∀ (t t' r s : List UInt8), Wd t → Wd t' → Dlm r → Dlm s → t ++ r = t' ++ s → t = t' ∧ r = s := by
  intro t
  induction t with
  | nil =>
    intro t' r s h1 h2 hr hs h
    cases t' with
    | nil => exact ⟨rfl, h⟩
    | cons c t' =>
      have := hr c (t' ++ s) h
      rw [h2 c (by simp)] at this
      cases this
  | cons a t ih =>
    intro t' r s h1 h2 hr hs h
    cases t' with
    | nil =>
      have := hs a (t ++ r) h.symm
      rw [h1 a (by simp)] at this
      cases this
    | cons c t' =>
      simp only [List.cons_append, List.cons.injEq] at h
      obtain ⟨rfl, h⟩ := h
      obtain ⟨e1, e2⟩ := ih t' r s (fun x hx => h1 x (by simp [hx])) (fun x hx => h2 x (by simp [hx])) hr hs h
      exact ⟨by rw [e1], e2⟩
theorem wb_dl (c : UInt8) (h : wbB (c.toNat : Int) = true) : dl c = false := by
  unfold wbB lowB upB digB at h
  simp at h
  unfold dl
  simp only [Bool.or_eq_false_iff, beq_eq_false_iff_ne, ne_eq]
  refine ⟨⟨⟨?_, ?_⟩, ?_⟩, ?_⟩ <;> (rintro rfl; simp at h)
theorem numL_ok (n : Int) (h : -4611686018427387904 ≤ n ∧ n ≤ 4611686018427387903) : numL n = Lib.itoa n := by
  unfold numL
  rw [if_pos (W_of n h)]
theorem numL_inj {a b : Int} (ha : -4611686018427387904 ≤ a ∧ a ≤ 4611686018427387903) (hb : -4611686018427387904 ≤ b ∧ b ≤ 4611686018427387903) (h : numL a = numL b) : a = b := by
  rw [numL_ok a ha, numL_ok b hb] at h
  have h1 := atoi_itoa a ha
  have h2 := atoi_itoa b hb
  rw [h, h2] at h1
  injection h1 with h1
  exact h1.symm
theorem digL_dl {l : List UInt8} (h : ∀ c ∈ l, isDig c) : Wd l := fun c hc => by
  have h1 := h c hc
  unfold isDig at h1
  unfold dl
  simp only [Bool.or_eq_false_iff, beq_eq_false_iff_ne, ne_eq]
  refine ⟨⟨⟨?_, ?_⟩, ?_⟩, ?_⟩ <;> (rintro rfl; simp at h1)
theorem numL_nat (n : Int) (h0 : 0 ≤ n) (h1 : n ≤ 4611686018427387903) : numL n = Lib.decDigits n.toNat := by
  rw [numL_ok n ⟨by omega, h1⟩]
  unfold Lib.itoa
  rw [if_neg (by omega)]
theorem small_toNat (v : Int) (h0 : 0 ≤ v) (h : v ≤ 25) : (UInt8.ofNat (97 + v.toNat)).toNat = 97 + v.toNat := by
  rw [UInt8.toNat_ofNat']; omega
theorem varL_wd (v : Int) (h0 : 0 ≤ v) (h1 : v ≤ 9999) : Wd (varL v) := by
  unfold varL
  split
  · intro c hc
    simp only [List.cons_append, List.nil_append, List.mem_cons] at hc
    rcases hc with rfl | rfl | hc
    · decide
    · decide
    · rw [numL_nat v h0 (by omega)] at hc
      exact digL_dl (digits_dig _) c hc
  · intro c hc
    simp only [List.mem_cons, List.not_mem_nil, or_false] at hc
    rcases hc with rfl | rfl
    · decide
    · have h3 := small_toNat v h0 (by omega)
      unfold dl
      simp only [Bool.or_eq_false_iff, beq_eq_false_iff_ne, ne_eq]
      refine ⟨⟨⟨?_, ?_⟩, ?_⟩, ?_⟩ <;> (intro e; rw [e] at h3; simp at h3; omega)
theorem varL_inj {v u : Int} (h0 : 0 ≤ v) (h1 : v ≤ 9999) (g0 : 0 ≤ u) (g1 : u ≤ 9999) (h : varL v = varL u) : v = u := by
  unfold varL at h
  have hne : ∀ n : Int, 0 ≤ n → n ≤ 9999 → numL n ≠ [] := fun n a b => by rw [numL_nat n a (by omega)]; exact digits_ne _
  split at h <;> split at h
  · simp only [List.cons_append, List.nil_append, List.cons.injEq, true_and] at h
    exact numL_inj ⟨by omega, by omega⟩ ⟨by omega, by omega⟩ h
  · simp only [List.cons_append, List.nil_append, List.cons.injEq, true_and] at h
    exact absurd h.2 (hne v h0 h1)
  · simp only [List.cons_append, List.nil_append, List.cons.injEq, true_and] at h
    exact absurd h.2.symm (hne u g0 g1)
  · simp only [List.cons.injEq, true_and, and_true] at h
    have e1 := small_toNat v h0 (by omega)
    have e2 := small_toNat u g0 (by omega)
    rw [h] at e1
    omega
theorem varL_hd (v : Int) : ∃ t, varL v = 39 :: t := by
  unfold varL
  split
  · exact ⟨_, rfl⟩
  · exact ⟨_, rfl⟩
/-- The items of the type that begins at a place. -/
def segT (f : Nat) (l : List TyI) (a : Nat) : List TyI := (l.drop a).take ((endF f l a).toNat - a)
theorem name_low {s : ByteArray} (h : nameB s = true) : ∃ c t, s.toList = c :: t ∧ 97 ≤ c.toNat ∧ c.toNat ≤ 122 := by
  unfold nameB wordB lenB at h
  simp only [Bool.and_eq_true, decide_eq_true_eq] at h
  obtain ⟨⟨⟨h1, _⟩, _⟩, h2, _⟩ := h
  rw [fst_get s (by omega)] at h2
  unfold lowB at h2
  simp only [Bool.and_eq_true, decide_eq_true_eq] at h2
  rw [pr_toList]
  obtain ⟨⟨l⟩⟩ := s
  cases l with
  | nil => simp [ByteArray.size] at h1
  | cons c t => exact ⟨c, t, rfl, by have := h2.1; have e : (⟨⟨c :: t⟩⟩ : ByteArray)[0]'(by simp [ByteArray.size]) = c := rfl; rw [e] at h2; omega, by have e : (⟨⟨c :: t⟩⟩ : ByteArray)[0]'(by simp [ByteArray.size]) = c := rfl; rw [e] at h2; omega⟩
theorem name_wd {s : ByteArray} (h : nameB s = true) : Wd s.toList := by
  unfold nameB wordB at h
  simp only [Bool.and_eq_true] at h
  rw [pr_toList]
  have h2 := h.1.2
  unfold allB at h2
  rw [List.all_eq_true] at h2
  exact fun c hc => wb_dl c (h2 c hc)
/-- An item's kind. -/
theorem item_kinds {x : TyI} (h : itemB x = true) : (x.name.toList = [] ∧ 0 ≤ x.var ∧ x.var ≤ 9999 ∧ x.arity = 0) ∨ (x.name.toList ≠ [] ∧ x.var = 0 ∧ x.arity = 0 ∧ nameB x.name = true) ∨ (x.name.toList ≠ [] ∧ x.var = 0 ∧ x.arity = 1 ∧ Wd x.name.toList) ∨
    (x.name.toList ≠ [] ∧ x.var = 0 ∧ x.arity = 2 ∧ arrowB x.name = true) ∨ (x.name.toList ≠ [] ∧ x.var = 0 ∧ x.arity = 2 ∧ arrowB x.name = false ∧ nameB x.name = true) := by
  unfold itemB at h
  split at h
  · next hn => simp only [Bool.and_eq_true, decide_eq_true_eq] at h; exact .inl ⟨hn, h.1, h.2.1, h.2.2⟩
  · next hn =>
    split at h
    · next hv =>
      split at h
      · next ha =>
        refine .inr (.inr (.inr (.inl ⟨hn, hv, by simpa using h, ?_⟩)))
        unfold arrowB
        simp only [Bool.or_eq_true, beq_iff_eq]; exact ha
      · next ha =>
        have hna : arrowB x.name = false := by
          unfold arrowB
          simp only [Bool.or_eq_false_iff, beq_eq_false_iff_ne, ne_eq]
          exact ⟨fun e => ha (.inl e), fun e => ha (.inr e)⟩
        split at h
        · next hr =>
          refine .inr (.inr (.inl ⟨hn, hv, by simpa using h, ?_⟩))
          rw [hr]
          intro c hc
          simp only [List.mem_cons, List.not_mem_nil, or_false] at hc
          rcases hc with rfl | rfl | rfl <;> decide
        · simp only [Bool.and_eq_true, decide_eq_true_eq] at h
          have h3 : x.arity = 0 ∨ x.arity = 1 ∨ x.arity = 2 := by omega
          rcases h3 with h3 | h3 | h3
          · exact .inr (.inl ⟨hn, hv, h3, h.1⟩)
          · exact .inr (.inr (.inl ⟨hn, hv, h3, name_wd h.1⟩))
          · exact .inr (.inr (.inr (.inr ⟨hn, hv, h3, hna, h.1⟩)))
    · cases h
theorem arrow_wd {s : ByteArray} (h : arrowB s = true) : Wd s.toList := by
  unfold arrowB at h
  simp only [Bool.or_eq_true, beq_iff_eq] at h
  rcases h with h | h <;> rw [h] <;> (intro c hc; simp only [List.mem_cons, List.not_mem_nil, or_false] at hc)
  · rcases hc with rfl | rfl <;> decide
  · subst hc; decide
theorem take_cons_seg (l : List TyI) (a n : Nat) (h : a < l.length) (hn : a < n) : (l.drop a).take (n - a) = l[a] :: (l.drop (a + 1)).take (n - (a + 1)) := by
  rw [List.drop_eq_getElem_cons h, show n - a = (n - (a + 1)) + 1 from by omega, List.take_succ_cons]
theorem take_two_seg (l : List TyI) (i m n : Nat) (h1 : i ≤ m) (h2 : m ≤ n) : (l.drop i).take (n - i) = (l.drop i).take (m - i) ++ (l.drop m).take (n - m) := by
  rw [show n - i = (m - i) + (n - m) from by omega, List.take_add, List.drop_drop, show i + (m - i) = m from by omega]
/-- What the text of a type is made of. -/
theorem pr_desc (l : List TyI) (hall : ∀ x ∈ l, itemB x = true) (f a : Nat) (h : 0 ≤ endF (f + 1) l a) :
    ∃ x : TyI, (x.name.toList = [] ∧ 0 ≤ x.var ∧ x.var ≤ 9999 ∧ x.arity = 0 ∧ prTy varL (f + 1) l a = varL x.var ∧ segT (f + 1) l a = [x]) ∨
      (x.name.toList ≠ [] ∧ x.var = 0 ∧ x.arity = 0 ∧ nameB x.name = true ∧ prTy varL (f + 1) l a = x.name.toList ∧ segT (f + 1) l a = [x]) ∨
      (x.name.toList ≠ [] ∧ x.var = 0 ∧ x.arity = 1 ∧ Wd x.name.toList ∧ 0 ≤ endF f l (a + 1 : Nat) ∧ prTy varL (f + 1) l a = 40 :: (prTy varL f l (a + 1 : Nat) ++ 41 :: 32 :: x.name.toList) ∧ segT (f + 1) l a = x :: segT f l (a + 1)) ∨
      (∃ m : Nat, x.name.toList ≠ [] ∧ x.var = 0 ∧ x.arity = 2 ∧ Wd x.name.toList ∧ 0 ≤ endF f l (a + 1 : Nat) ∧ 0 ≤ endF f l m ∧ prTy varL (f + 1) l a = 40 :: (prTy varL f l (a + 1 : Nat) ++ 32 :: (x.name.toList ++ 32 :: (prTy varL f l m ++ [41]))) ∧ segT (f + 1) l a = x :: (segT f l (a + 1) ++ segT f l m)) ∨
      (∃ m : Nat, x.name.toList ≠ [] ∧ x.var = 0 ∧ x.arity = 2 ∧ Wd x.name.toList ∧ 0 ≤ endF f l (a + 1 : Nat) ∧ 0 ≤ endF f l m ∧ prTy varL (f + 1) l a = 40 :: (prTy varL f l (a + 1 : Nat) ++ 44 :: 32 :: (prTy varL f l m ++ 41 :: 32 :: x.name.toList)) ∧ segT (f + 1) l a = x :: (segT f l (a + 1) ++ segT f l m)) := by
  have hal : a < l.length := by
    by_cases hc : a < l.length
    · exact hc
    · rw [endF_out _ _ _ (.inr (by omega))] at h; omega
  have hx := item_kinds (hall l[a] (List.getElem_mem hal))
  have hE := endF_in f l a hal
  have hP0 := Lib.hid (show prTy varL (f + 1) l (a : Int) = _ from by rw [prTy, Int.toNat_natCast, List.getElem?_eq_getElem hal])
  simp only at hP0
  have hP := hP0.out
  have hS : segT (f + 1) l a = (l.drop a).take ((endF (f + 1) l a).toNat - a) := rfl
  have e1 : ((a : Int) + 1) = ((a + 1 : Nat) : Int) := by omega
  rw [e1] at hE hP
  have cons := take_cons_seg l a
  refine ⟨l[a], ?_⟩
  generalize hxa : l[a] = x at *
  have g1 := endF_gt f l ((a + 1 : Nat) : Int)
  rcases hx with ⟨h1, h2, h3, h4⟩ | ⟨h1, h2, h3, h4⟩ | ⟨h1, h2, h3, h4⟩ | ⟨h1, h2, h3, h4⟩ | ⟨h1, h2, h3, h4, h5⟩
  · left
    have he : endF (f + 1) l a = ((a + 1 : Nat) : Int) := by rw [hE, h4]; rfl
    refine ⟨h1, h2, h3, h4, by rw [hP, if_pos h1], ?_⟩
    rw [hS, he, Int.toNat_natCast, cons (a + 1) hal (by omega), hxa]; simp
  · right; left
    have he : endF (f + 1) l a = ((a + 1 : Nat) : Int) := by rw [hE, h3]; rfl
    refine ⟨h1, h2, h3, h4, by rw [hP, if_neg h1, if_pos h3], ?_⟩
    rw [hS, he, Int.toNat_natCast, cons (a + 1) hal (by omega), hxa]; simp
  · right; right; left
    have he : endF (f + 1) l a = endF f l ((a + 1 : Nat) : Int) := by rw [hE, h3]; show iterE _ 1 _ = _; rw [iterE, if_neg (by omega)]; rfl
    have h0 : 0 ≤ endF f l ((a + 1 : Nat) : Int) := by rw [← he]; exact h
    have h6 : ((a + 1 : Nat) : Int) < endF f l ((a + 1 : Nat) : Int) := by omega
    refine ⟨h1, h2, h3, h4, h0, by rw [hP, if_neg h1, if_neg (by omega), if_pos h3]; simp, ?_⟩
    rw [hS, he, cons _ hal (by omega), hxa]
    rfl
  · right; right; right; left
    have hi1 : iterE (endF f l) 1 ((a + 1 : Nat) : Int) = endF f l ((a + 1 : Nat) : Int) := by rw [iterE, if_neg (by omega)]; rfl
    have he : endF (f + 1) l a = if endF f l ((a + 1 : Nat) : Int) < 0 then endF f l ((a + 1 : Nat) : Int) else endF f l (endF f l ((a + 1 : Nat) : Int)) := by
      rw [hE, h3]; show iterE _ 2 _ = _
      rw [iterE_snoc, hi1]
    have h0 : 0 ≤ endF f l ((a + 1 : Nat) : Int) := by
      by_cases hc : endF f l ((a + 1 : Nat) : Int) < 0
      · rw [he, if_pos hc] at h; omega
      · omega
    rw [if_neg (by omega)] at he
    have h6 : ((a + 1 : Nat) : Int) < endF f l ((a + 1 : Nat) : Int) := by omega
    obtain ⟨m, hm⟩ : ∃ m : Nat, endF f l ((a + 1 : Nat) : Int) = m := ⟨(endF f l ((a + 1 : Nat) : Int)).toNat, by omega⟩
    rw [hm] at he
    have h7 : 0 ≤ endF f l (m : Int) := by rw [← he]; exact h
    have g2 := endF_gt f l (m : Int)
    have h8 : (m : Int) < endF f l (m : Int) := by omega
    refine ⟨m, h1, h2, h3, arrow_wd h4, h0, h7, by rw [hP, if_neg h1, if_neg (by omega), if_neg (by omega), if_pos h4, hm]; simp, ?_⟩
    rw [hS, he, cons _ hal (by omega), hxa, take_two_seg l (a + 1) m _ (by omega) (by omega)]
    unfold segT
    rw [hm, Int.toNat_natCast]
  · right; right; right; right
    have hi1 : iterE (endF f l) 1 ((a + 1 : Nat) : Int) = endF f l ((a + 1 : Nat) : Int) := by rw [iterE, if_neg (by omega)]; rfl
    have he : endF (f + 1) l a = if endF f l ((a + 1 : Nat) : Int) < 0 then endF f l ((a + 1 : Nat) : Int) else endF f l (endF f l ((a + 1 : Nat) : Int)) := by
      rw [hE, h3]; show iterE _ 2 _ = _
      rw [iterE_snoc, hi1]
    have h0 : 0 ≤ endF f l ((a + 1 : Nat) : Int) := by
      by_cases hc : endF f l ((a + 1 : Nat) : Int) < 0
      · rw [he, if_pos hc] at h; omega
      · omega
    rw [if_neg (by omega)] at he
    have h6 : ((a + 1 : Nat) : Int) < endF f l ((a + 1 : Nat) : Int) := by omega
    obtain ⟨m, hm⟩ : ∃ m : Nat, endF f l ((a + 1 : Nat) : Int) = m := ⟨(endF f l ((a + 1 : Nat) : Int)).toNat, by omega⟩
    rw [hm] at he
    have h7 : 0 ≤ endF f l (m : Int) := by rw [← he]; exact h
    have g2 := endF_gt f l (m : Int)
    have h8 : (m : Int) < endF f l (m : Int) := by omega
    refine ⟨m, h1, h2, h3, name_wd h5, h0, h7, by rw [hP, if_neg h1, if_neg (by omega), if_neg (by omega), if_neg (by simp [h4]), hm]; simp, ?_⟩
    rw [hS, he, cons _ hal (by omega), hxa, take_two_seg l (a + 1) m _ (by omega) (by omega)]
    unfold segT
    rw [hm, Int.toNat_natCast]
theorem item_eq {x y : TyI} (h1 : x.var = y.var) (h2 : x.name.toList = y.name.toList) (h3 : x.arity = y.arity) : x = y := by
  obtain ⟨a, b, c⟩ := x
  obtain ⟨d, e, f⟩ := y
  simp only at h1 h2 h3
  rw [h1, toL_inj h2, h3]
theorem low_ne {s : ByteArray} (h : nameB s = true) (c : UInt8) (hc : c.toNat < 97) (t : List UInt8) (r : List UInt8) : s.toList ++ r ≠ c :: t := by
  obtain ⟨d, u, e, h1, _⟩ := name_low h
  rw [e]
  intro hh
  simp only [List.cons_append, List.cons.injEq] at hh
  rw [hh.1] at h1
  omega
/-- A type is known by its text, whatever delimiter stands behind. -/
theorem pr_inj {l l' : List TyI} (hall : ∀ x ∈ l, itemB x = true) (hall' : ∀ x ∈ l', itemB x = true) : ∀ (f a f' a' : Nat) (r s : List UInt8), 0 ≤ endF f l a → 0 ≤ endF f' l' a' → Dlm r → Dlm s →
    prTy varL f l a ++ r = prTy varL f' l' a' ++ s → segT f l a = segT f' l' a' ∧ r = s := by
  intro f
  induction f with
  | zero => intro a f' a' r s h; simp [endF] at h
  | succ f ih =>
    intro a f' a' r s h h' hr hs he
    cases f' with
    | zero => simp [endF] at h'
    | succ f' =>
      obtain ⟨x, hx⟩ := pr_desc l hall f a h
      obtain ⟨y, hy⟩ := pr_desc l' hall' f' a' h'
      have D32 : ∀ t, Dlm (32 :: t) := fun t => Dlm.cons (by decide)
      have D41 : ∀ t, Dlm (41 :: t) := fun t => Dlm.cons (by decide)
      have D44 : ∀ t, Dlm (44 :: t) := fun t => Dlm.cons (by decide)
      rcases hx with ⟨x1, x2, x3, x4, xt, xs⟩ | ⟨x1, x2, x3, x4, xt, xs⟩ | ⟨x1, x2, x3, x4, x5, xt, xs⟩ | ⟨m, x1, x2, x3, x4, x5, x6, xt, xs⟩ | ⟨m, x1, x2, x3, x4, x5, x6, xt, xs⟩ <;>
      rcases hy with ⟨y1, y2, y3, y4, yt, ys⟩ | ⟨y1, y2, y3, y4, yt, ys⟩ | ⟨y1, y2, y3, y4, y5, yt, ys⟩ | ⟨n, y1, y2, y3, y4, y5, y6, yt, ys⟩ | ⟨n, y1, y2, y3, y4, y5, y6, yt, ys⟩ <;>
      rw [xt, yt] at he <;> rw [xs, ys]
      · obtain ⟨e1, e2⟩ := wd_split _ _ _ _ (varL_wd _ x2 x3) (varL_wd _ y2 y3) hr hs he
        exact ⟨by rw [item_eq (varL_inj x2 x3 y2 y3 e1) (by rw [x1, y1]) (by rw [x4, y4])], e2⟩
      · obtain ⟨t, ht⟩ := varL_hd x.var
        rw [ht] at he
        exact absurd he.symm (low_ne y4 39 (by decide) _ _)
      · obtain ⟨t, ht⟩ := varL_hd x.var
        rw [ht] at he; simp at he
      · obtain ⟨t, ht⟩ := varL_hd x.var
        rw [ht] at he; simp at he
      · obtain ⟨t, ht⟩ := varL_hd x.var
        rw [ht] at he; simp at he
      · obtain ⟨t, ht⟩ := varL_hd y.var
        rw [ht] at he
        exact absurd he (low_ne x4 39 (by decide) _ _)
      · obtain ⟨e1, e2⟩ := wd_split _ _ _ _ (name_wd x4) (name_wd y4) hr hs he
        exact ⟨by rw [item_eq (by rw [x2, y2]) e1 (by rw [x3, y3])], e2⟩
      · exact absurd he (low_ne x4 40 (by decide) _ _)
      · exact absurd he (low_ne x4 40 (by decide) _ _)
      · exact absurd he (low_ne x4 40 (by decide) _ _)
      · obtain ⟨t, ht⟩ := varL_hd y.var
        rw [ht] at he; simp at he
      · exact absurd he.symm (low_ne y4 40 (by decide) _ _)
      · -- one kid, both
        simp only [List.cons_append, List.append_assoc, List.cons.injEq, true_and] at he
        obtain ⟨e1, e2⟩ := ih _ _ _ _ _ x5 y5 (D41 _) (D41 _) he
        simp only [List.cons.injEq, true_and] at e2
        obtain ⟨e3, e4⟩ := wd_split _ _ _ _ x4 y4 hr hs e2
        exact ⟨by rw [item_eq (by rw [x2, y2]) e3 (by rw [x3, y3]), e1], e4⟩
      · simp only [List.cons_append, List.append_assoc, List.cons.injEq, true_and] at he
        obtain ⟨e1, e2⟩ := ih _ _ _ _ _ x5 y5 (D41 _) (D32 _) he
        simp at e2
      · simp only [List.cons_append, List.append_assoc, List.cons.injEq, true_and] at he
        obtain ⟨e1, e2⟩ := ih _ _ _ _ _ x5 y5 (D41 _) (D44 _) he
        simp at e2
      · obtain ⟨t, ht⟩ := varL_hd y.var
        rw [ht] at he; simp at he
      · exact absurd he.symm (low_ne y4 40 (by decide) _ _)
      · simp only [List.cons_append, List.append_assoc, List.cons.injEq, true_and] at he
        obtain ⟨e1, e2⟩ := ih _ _ _ _ _ x5 y5 (D32 _) (D41 _) he
        simp at e2
      · -- an arrow or a star, both
        simp only [List.cons_append, List.append_assoc, List.cons.injEq, true_and, List.nil_append] at he
        obtain ⟨e1, e2⟩ := ih _ _ _ _ _ x5 y5 (D32 _) (D32 _) he
        simp only [List.cons.injEq, true_and] at e2
        obtain ⟨e3, e4⟩ := wd_split _ _ _ _ x4 y4 (D32 _) (D32 _) e2
        simp only [List.cons.injEq, true_and] at e4
        obtain ⟨e5, e6⟩ := ih _ _ _ _ _ x6 y6 (D41 _) (D41 _) e4
        simp only [List.cons.injEq, true_and] at e6
        exact ⟨by rw [item_eq (by rw [x2, y2]) e3 (by rw [x3, y3]), e1, e5], e6⟩
      · simp only [List.cons_append, List.append_assoc, List.cons.injEq, true_and] at he
        obtain ⟨e1, e2⟩ := ih _ _ _ _ _ x5 y5 (D32 _) (D44 _) he
        simp at e2
      · obtain ⟨t, ht⟩ := varL_hd y.var
        rw [ht] at he; simp at he
      · exact absurd he.symm (low_ne y4 40 (by decide) _ _)
      · simp only [List.cons_append, List.append_assoc, List.cons.injEq, true_and] at he
        obtain ⟨e1, e2⟩ := ih _ _ _ _ _ x5 y5 (D44 _) (D41 _) he
        simp at e2
      · simp only [List.cons_append, List.append_assoc, List.cons.injEq, true_and] at he
        obtain ⟨e1, e2⟩ := ih _ _ _ _ _ x5 y5 (D44 _) (D32 _) he
        simp at e2
      · -- two kids, both
        simp only [List.cons_append, List.append_assoc, List.cons.injEq, true_and] at he
        obtain ⟨e1, e2⟩ := ih _ _ _ _ _ x5 y5 (D44 _) (D44 _) he
        simp only [List.cons.injEq, true_and] at e2
        obtain ⟨e3, e4⟩ := ih _ _ _ _ _ x6 y6 (D41 _) (D41 _) e2
        simp only [List.cons.injEq, true_and] at e4
        obtain ⟨e5, e6⟩ := wd_split _ _ _ _ x4 y4 hr hs e4
        exact ⟨by rw [item_eq (by rw [x2, y2]) e5 (by rw [x3, y3]), e1, e3], e6⟩
theorem prTy_inj {l l' : List TyI} (h : tyOkB l = true) (h' : tyOkB l' = true) (he : prTyRes l = prTyRes l') : l = l' := by
  obtain ⟨h1, h2, h3⟩ := tyOk_parts h
  obtain ⟨g1, g2, g3⟩ := tyOk_parts h'
  rw [prTyRes, prTyRes, if_pos h, if_pos h'] at he
  have he2 : prTy varL (l.length + 1) l (0 : Nat) ++ [] = prTy varL (l'.length + 1) l' (0 : Nat) ++ [] := by
    have := congrArg (fun b : ByteArray => b.data.toList) he
    simpa using this
  have h3' : endF (l.length + 1) l ((0 : Nat) : Int) = l.length := h3
  have g3' : endF (l'.length + 1) l' ((0 : Nat) : Int) = l'.length := g3
  have := (pr_inj h1 g1 (l.length + 1) 0 (l'.length + 1) 0 [] [] (by omega) (by omega) Dlm.nil Dlm.nil he2).1
  unfold segT at this
  rw [h3', g3'] at this
  simpa using this
end Go.Proofs.YtaibgnfjjbncpaaGreat
namespace Go.Proofs.YtaibgnfjjbncpaaGreat
set_option linter.unusedVariables false
open Go.RowKit

/-- A value's node, as a pattern's. -/
def toPN (x : DN) : PN := ⟨x.kind, x.n, x.s, x.kids⟩
/-- A node of a value by itself. -/
def dnodeB (p : Bool) (kind n : Int) (s : ByteArray) (m : Int) : Bool :=
  if kind = 6 then decide (n = 0) && (decide (s.toList = []) && decide (m = 0))
  else if kind = 2 then decide (n = 0) && decide (m = 0)
  else if kind = 3 then decide (W n = n) && (decide (s.toList = []) && decide (m = 0))
  else if kind = 4 then decide (n = 0) && conOkB s m p
  else if kind = 5 then decide (n = 0) && (decide (s.toList = []) && decide (m = 2))
  else false
def isDNB (x : PN) : Bool := dnodeB true x.kind x.n x.s x.kids.length
def rightDB (q : List PN) (x : PN) : Bool := isDNB x && (!isConsB x || decide (firstPK q x.kids = 5))
theorem dnode_p (p : Bool) (k n : Int) (s : ByteArray) (m : Int) : dnodeB p k n s m = (dnodeB true k n s m && (!(decide (k = 4) && decide (s.toList = [58, 58])) || p)) := by
  unfold dnodeB
  by_cases h4 : k = 4
  · subst h4
    rw [if_neg (by decide), if_neg (by decide), if_neg (by decide), if_pos rfl, if_neg (by decide), if_neg (by decide), if_neg (by decide), if_pos rfl, conOk_p s m p]
    simp [Bool.and_assoc]
  · rw [if_neg h4]
    simp [h4]
theorem isDN_cons (x : PN) (h : isDNB x = true) (hc : isConsB x = true) : x.kids.length = 1 := by
  simp only [isConsB, Bool.and_eq_true, decide_eq_true_eq] at hc
  obtain ⟨h4, hs⟩ := hc
  unfold isDNB dnodeB at h
  rw [h4] at h
  rw [if_neg (by decide), if_neg (by decide), if_neg (by decide), if_pos rfl] at h
  unfold conOkB at h
  rw [if_pos hs] at h
  simp at h
  omega
theorem dnB_right (q : List PN) (x : PN) (hk : ∀ k ∈ x.kids, 0 ≤ k ∧ k < (q.length : Int)) : dnodeB (pairB q x.kids) x.kind x.n x.s x.kids.length = rightDB q x := by
  unfold rightDB isDNB
  rw [dnode_p]
  by_cases hc : isConsB x = true
  · by_cases h : isDNB x = true
    · have h1 := isDN_cons x h hc
      obtain ⟨k, hkk⟩ : ∃ k, x.kids = [k] := List.length_eq_one_iff.1 h1
      have := hk k (by simp [hkk])
      rw [show (decide (x.kind = 4) && decide (x.s.toList = [58, 58])) = isConsB x from rfl, hc, hkk]
      have hg := List.getElem?_eq_getElem (show k.toNat < q.length by omega)
      rw [show pairB q [k] = decide (firstPK q [k] = 5) from by simp [pairB, firstPK, hg, this.1]]
    · have h' : dnodeB true x.kind x.n x.s x.kids.length = false := by simpa [isDNB] using h
      rw [h']; simp
  · have hc' : (decide (x.kind = 4) && decide (x.s.toList = [58, 58])) = false := by simpa [isConsB] using hc
    rw [show isConsB x = false from by simpa using hc, hc']
    simp
/-- A valid value. -/
def dOkB (l : List DN) : Bool := preB (l.map DN.kids) && (l.map toPN).all (rightDB (l.map toPN))
theorem kids_toPN (l : List DN) : (l.map toPN).map PN.kids = l.map DN.kids := by
  rw [List.map_map]; rfl
def DOkP (l : List DN) : Prop := 1 ≤ l.length ∧ l.length ≤ 600 ∧ (∀ i (h : i < l.length), dnodeB (pairB (l.map toPN) l[i].kids) l[i].kind l[i].n l[i].s l[i].kids.length = true) ∧ pendF (l.length + 1) (l.map DN.kids) 0 = l.length
theorem dOk_iff (l : List DN) : dOkB l = true ↔ DOkP l := by
  unfold dOkB DOkP
  simp only [Bool.and_eq_true]
  rw [preB_iff]
  simp only [List.length_map]
  constructor
  · rintro ⟨⟨h1, h2, h4⟩, h5⟩
    have hp : preB ((l.map toPN).map PN.kids) = true := by rw [kids_toPN]; exact (preB_iff _).2 ⟨by simpa using h1, by simpa using h2, by simpa using h4⟩
    refine ⟨h1, h2, fun i hi => ?_, h4⟩
    have := List.all_eq_true.1 h5 (toPN l[i]) (List.mem_map_of_mem (List.getElem_mem hi))
    rw [← dnB_right _ _ (pat_kids _ hp _ (List.mem_map_of_mem (List.getElem_mem hi)))] at this
    exact this
  · rintro ⟨h1, h2, h3, h4⟩
    have hp : preB ((l.map toPN).map PN.kids) = true := by rw [kids_toPN]; exact (preB_iff _).2 ⟨by simpa using h1, by simpa using h2, by simpa using h4⟩
    refine ⟨⟨h1, h2, h4⟩, List.all_eq_true.2 fun x hx => ?_⟩
    obtain ⟨y, hy, rfl⟩ := List.mem_map.1 hx
    obtain ⟨i, hi, rfl⟩ := List.getElem_of_mem hy
    rw [← dnB_right _ _ (pat_kids _ hp _ hx)]
    exact h3 i hi
theorem dOk_no {l : List DN} (h : ¬ DOkP l) : dOkB l = false := by
  cases hb : dOkB l
  · rfl
  · exact absurd ((dOk_iff l).1 hb) h
theorem dOk_end {l : List DN} (h1 : 1 ≤ l.length) (h2 : l.length ≤ 600) (h3 : ∀ i (h : i < l.length), dnodeB (pairB (l.map toPN) l[i].kids) l[i].kind l[i].n l[i].s l[i].kids.length = true) :
    dOkB l = decide (pendF (l.length + 1) (l.map DN.kids) 0 = (l.length : Int)) := by
  by_cases he : pendF (l.length + 1) (l.map DN.kids) 0 = (l.length : Int)
  · rw [(dOk_iff l).2 ⟨h1, h2, h3, he⟩]; simp [he]
  · rw [dOk_no fun h => he h.2.2.2]; simp [he]
/-- The only kid is a pair, asked of the value's nodes. -/
theorem pair_yes (l : List DN) (m : Nat) (h : m < l.length) : pairB (l.map toPN) [(m : Int)] = (l[m].kind == 5) := by
  rw [pairB]; simp [h, toPN]; rw [Bool.eq_iff_iff]; simp
theorem pair_out (l : List DN) (m : Nat) (h : ¬ m < l.length) : pairB (l.map toPN) [(m : Int)] = false := by
  rw [pairB]; simp [List.getElem?_eq_none (Nat.le_of_not_lt h)]
theorem pair_neg (l : List PN) (y : Int) (h : y < 0) : pairB l [y] = false := by rw [pairB]; simp; omega
theorem pair_len (l : List PN) (ks : List Int) (h : ks.length ≠ 1) : pairB l ks = false := by
  match ks, h with
  | [], _ => rfl
  | [y], h => simp at h
  | _ :: _ :: _, _ => rfl
end Go.Proofs.YtaibgnfjjbncpaaGreat
