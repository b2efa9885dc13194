/- The model's checks of types. -/
import Derived.Test.YtilincaedjhnpaaGreatOkMath
import Derived.Test.YtilincaedjhnpaaGreatText
import Derived.WalkKit
import Derived.WalkSmall
import Derived.ProofKit
import Derived.OpenShut
import Derived.Lib.Hide
import Derived.Lib.SmallJoins
import Derived.StillTailTactics
import Derived.Deep.QuietTactic
import Derived.BigQuiet
import Derived.Deep.RegionHeld3
import Derived.Deep.RegionWith
import Derived.Outline
namespace Go.Proofs.YtilincaedjhnpaaGreat
set_option linter.unusedVariables false
set_option maxRecDepth 100000
open Go.ChangeShapes Go.WideShapes Go.ChangeAt Go.RowKit

theorem sItem (x : TyI) (w : World) (hs : x.name.size ≤ maxLen) :
    Calls Tryz.prog 81 #[.agg #[.int .i64 x.var, .string x.name, .int .i64 x.arity]] w fun e w' => e = .returned (.bool (itemB x)) ∧ Below w.heap.size w w' := by
  by_cases hn : x.name.toList = []
  · have h1 : x.name.toList.isEmpty = true := by simp [hn]
    have HB := Lib.hid (show itemB x = (decide (0 ≤ x.var) && (decide (x.var ≤ 9999) && decide (x.arity = 0))) from by rw [itemB, if_pos hn])
    go_enter Tryz.func81, Tryz.ntmps81
    go_wp2
    all_goals
      go_ret
      refine ⟨ret_bool ?_, Joins.below_alloc1 w _⟩
      rw [HB.out]
      first | (rw [Bool.eq_iff_iff]; simp; omega) | (simp; omega)
  · have h1 : x.name.toList.isEmpty = false := by simpa using hn
    by_cases hv : x.var = 0
    · have hv1 : (x.var == 0) = true := by simpa using hv
      have hv2 : (x.var != 0) = false := by simpa using hv
      by_cases ha : x.name.toList = [45, 62] ∨ x.name.toList = [42]
      · have HB := Lib.hid (show itemB x = decide (x.arity = 2) from by rw [itemB, if_neg hn, if_pos hv, if_pos ha])
        clear hv
        rcases ha with ha | ha
        all_goals
          go_enter Tryz.func81, Tryz.ntmps81
          go_wp2
          all_goals
            go_ret
            refine ⟨ret_bool ?_, Joins.below_alloc1 w _⟩
            rw [HB.out]
            rw [Bool.eq_iff_iff]; simp
      · obtain ⟨ha1, ha2⟩ := not_or.1 ha
        have hb1 : (x.name.toList == [45, 62]) = false := by simpa using ha1
        have hb2 : (x.name.toList == [42]) = false := by simpa using ha2
        by_cases hr : x.name.toList = [114, 101, 102]
        · have HB := Lib.hid (show itemB x = decide (x.arity = 1) from by rw [itemB, if_neg hn, if_pos hv, if_neg ha, if_pos hr])
          clear hv ha
          go_enter Tryz.func81, Tryz.ntmps81
          go_wp2
          go_ret
          refine ⟨ret_bool ?_, Joins.below_alloc1 w _⟩
          rw [HB.out]
          rw [Bool.eq_iff_iff]; simp
        · have hr1 : (x.name.toList == [114, 101, 102]) = false := by simpa using hr
          have HB := Lib.hid (show itemB x = (nameB x.name && (decide (0 ≤ x.arity) && decide (x.arity ≤ 2))) from by rw [itemB, if_neg hn, if_pos hv, if_neg ha, if_neg hr])
          clear hv ha hr
          go_enter Tryz.func81, Tryz.ntmps81
          go_wp2_with fail
          refine (sNameOk _ _ hs).mono ?_
          rintro e w1 ⟨rfl, hb⟩
          obtain ⟨hc, hf⟩ := bcell hb
          generalize nameB x.name = nb at *
          cases nb
          all_goals
            go_wp2
            all_goals
              go_ret
              refine ⟨ret_bool ?_, below_tr (Joins.below_alloc1 w _) hb⟩
              rw [HB.out]
              first | (simp; done) | (rw [Bool.eq_iff_iff]; simp; omega) | (simp; omega)
    · have hv2 : (x.var != 0) = true := by simpa using hv
      have HB := Lib.hid (show itemB x = false from by rw [itemB, if_neg hn, if_neg hv])
      clear hv
      go_enter Tryz.func81, Tryz.ntmps81
      go_wp2
      go_ret
      exact ⟨ret_bool HB.out.symm, Joins.below_alloc1 w _⟩
theorem sEnd : ∀ (f : Nat) (l : List TyI) (v : Value) (a : Int) (w : World) (hR : RowRd 3 TyIEl w v l) (ha : I64 a) (hf : a < 0 ∨ (l.length : Int) < a + f),
    Calls Tryz.prog 82 #[.agg #[v], .int .i64 a] w fun e w' => e = .returned (.int .i64 (endF f l a)) ∧ Below w.heap.size w w' := by
  intro f
  induction f with
  | zero =>
    intro l v a w hR ha hf
    obtain ⟨p, cap, rfl, hm, _⟩ := hR.form
    have HB := Lib.hid (endF_out 0 l a (by omega))
    obtain ⟨ha1, ha2⟩ := ha
    unfold maxLen at hm
    by_cases h0 : a < 0
    · go_enter Tryz.func82, Tryz.ntmps82
      go_wp2
      go_ret
      exact ⟨ret_int' HB.out.symm, Joins.below_alloc1 w _⟩
    · have h1 : (l.length : Int) ≤ a := by omega
      go_enter Tryz.func82, Tryz.ntmps82
      go_wp2
      go_ret
      exact ⟨ret_int' HB.out.symm, Joins.below_alloc1 w _⟩
  | succ f ih =>
    intro l v a w hR ha hf
    have hR0 := hR
    obtain ⟨p, cap, rfl, hm, hR⟩ := hR.form
    obtain ⟨ha1, ha2⟩ := ha
    unfold maxLen at hm
    by_cases h0 : a < 0
    · have HB := Lib.hid (endF_out (f + 1) l a (.inl h0))
      go_enter Tryz.func82, Tryz.ntmps82
      go_wp2
      go_ret
      exact ⟨ret_int' HB.out.symm, Joins.below_alloc1 w _⟩
    by_cases h1 : (l.length : Int) ≤ a
    · have HB := Lib.hid (endF_out (f + 1) l a (.inr h1))
      go_enter Tryz.func82, Tryz.ntmps82
      go_wp2
      go_ret
      exact ⟨ret_int' HB.out.symm, Joins.below_alloc1 w _⟩
    obtain ⟨n, rfl⟩ : ∃ n : Nat, a = n := ⟨a.toNat, by omega⟩
    have hn : n < l.length := by omega
    have HB := Lib.hid (endF_in f l n hn)
    have hfl : (l.length : Int) < (n : Int) + 1 + f := by omega
    have h2 : (n : Int) < l.length := by omega
    clear h0 h1 hf
    have hnb : decide ((n : Int) < 0) = false := by simp
    have hnc : decide (l.length ≤ n) = false := by simp; omega
    obtain ⟨b, o, rfl, hbw, hc⟩ := hR (by omega)
    have ex := hc n hn
    clear hc hR
    generalize l[n] = x at *
    obtain ⟨⟨e0, i0⟩, ⟨e1, i1⟩, ⟨e2, i2⟩⟩ := ex
    obtain ⟨i2a, i2b⟩ := i2
    go_enter Tryz.func82, Tryz.ntmps82
    go_wp2
    go_loopw [5, 6] (fun nx i wr => ∃ k : Nat, i = .int .i64 k ∧ nx = .int .i64 (iterE (endF f l) k ((n : Int) + 1)) ∧ k ≤ x.arity.toNat ∧ Below (w.alloc (.cells #[.slice (some ⟨b, o, none⟩) l.length cap] 61)).heap.size (w.alloc (.cells #[.slice (some ⟨b, o, none⟩) l.length cap] 61)) wr) (fun _ i _ => x.arity.toNat - (intOf i).toNat)
    case atStart => exact ⟨0, rfl, rfl, Nat.zero_le _, Below.refl _ _⟩
    case round =>
      obtain ⟨k, rfl, rfl, hk, hbel⟩ := hrel
      obtain ⟨hcl, hfr⟩ := bcell hbel
      have hsz := hbel.size
      simp at hsz
      have c0 : wr.cell? ⟨w.heap.size, 0, none⟩ = some (.slice (some ⟨b, o, none⟩) l.length cap) := by rw [hcl _ _ (by simp)]; simp
      have c2 : wr.cell? ⟨b, o + n * 3 + 2, none⟩ = some (.int .i64 x.arity) := by rw [hcl _ _ (by simp; omega)]; exact ((Kept.alloc w _).cell b _ hbw).trans e2
      clear hcl hfr
      have hbd := iter_gt f l k ((n : Int) + 1) (by omega)
      have hle := iter_le f l k ((n : Int) + 1) (by omega)
      have HS := Lib.hid (iterE_snoc (endF f l) k ((n : Int) + 1))
      have HM := Lib.hid (fun m => iterE_more (endF f l) k m ((n : Int) + 1))
      obtain ⟨N, hN⟩ : ∃ N, N = iterE (endF f l) k ((n : Int) + 1) := ⟨_, rfl⟩
      rw [← hN] at hbd hle ⊢
      have HN := Lib.hid hN
      clear hN e0 e1 e2
      by_cases hlt : (k : Int) < x.arity
      · by_cases hneg : N < 0
        · go_wp2
          go_ret
          refine ⟨ret_int' ?_, (Joins.below_alloc1 w _).trans (hbel.mono (by simp))⟩
          rw [HB.out, HM.out _ (by rw [← HN.out]; exact hneg) (by omega), HN.out]
        · have hN0 : 0 ≤ N := by omega
          go_wp2_with fail
          refine (ih l _ N _ (hR0.kept TyIEl.st ((Kept.alloc _ _).trans (Kept.of_below hbel))) ⟨by omega, by omega⟩ (by omega)).mono ?_
          rintro e w1 ⟨rfl, hb1⟩
          go_wp2
          go_roundw
          case rel => exact ⟨k + 1, by go_num, by rw [HS.out, ← HN.out, if_neg (show ¬ N < 0 by omega)], by omega, below_tr hbel hb1⟩
          case measure => simp [intOf]; omega
      · go_wp2
        go_ret
        refine ⟨ret_int' ?_, (Joins.below_alloc1 w _).trans (hbel.mono (by simp))⟩
        rw [HB.out, show x.arity.toNat = k from by omega, HN.out]
theorem all_snoc {α : Type} (f : α → Bool) (l : List α) (k : Nat) (h : k < l.length) (h0 : (l.take k).all f = true) (h1 : f l[k] = true) : (l.take (k + 1)).all f = true := by
  rw [List.take_succ_eq_append_getElem h, List.all_append, h0]; simp [h1]
theorem all_no {α : Type} (f : α → Bool) (l : List α) (k : Nat) (h : k < l.length) (h1 : f l[k] = false) : l.all f = false := by
  rw [List.all_eq_false]; exact ⟨_, List.getElem_mem h, by simp [h1]⟩
theorem sTyOk (l : List TyI) (v : Value) (w : World) (hR : RowRd 3 TyIEl w v l) :
    Calls Tryz.prog 49 #[.agg #[v]] w fun e w' => e = .returned (.bool (tyOkB l)) ∧ Below w.heap.size w w' := by
  have hR0 := hR
  obtain ⟨p, cap, rfl, hm, hR⟩ := hR.form
  unfold maxLen at hm
  by_cases h0 : 200 < (l.length : Int)
  · have HB := Lib.hid (show tyOkB l = false from by simp [tyOkB]; omega)
    go_enter Tryz.func49, Tryz.ntmps49
    go_wp2
    go_ret
    exact ⟨ret_bool HB.out.symm, Joins.below_alloc1 w _⟩
  · have hlb : decide (200 < (l.length : Int)) = false := by simp; omega
    go_enter Tryz.func49, Tryz.ntmps49
    go_wp2
    go_loopw [12] (fun i wr => ∃ k : Nat, i = .int .i64 k ∧ k ≤ l.length ∧ (l.take k).all itemB = true ∧ Below (w.alloc (.cells #[.slice p l.length cap] 61)).heap.size (w.alloc (.cells #[.slice p l.length cap] 61)) wr) (fun i _ => l.length - (intOf i).toNat)
    case atStart => exact ⟨0, rfl, Nat.zero_le _, rfl, Below.refl _ _⟩
    case round =>
      obtain ⟨k, rfl, hk, hall, hbel⟩ := hrel
      have HA := Lib.hid hall
      clear hall
      have hsz := hbel.size
      simp at hsz
      by_cases hlt : k < l.length
      · obtain ⟨b, o, rfl, hbw, hc⟩ := hR (by omega)
        have ex := TyIEl.st w wr b _ _ ((Kept.alloc _ _).trans (Kept.of_below hbel)) hbw (hc k hlt)
        clear hc hR
        have hno := all_no itemB l k hlt
        have hyes := all_snoc itemB l k hlt HA.out
        have HN := Lib.hid hno
        have HY := Lib.hid hyes
        clear hno hyes
        generalize l[k] = x at *
        obtain ⟨⟨e0, i0⟩, ⟨e1, i1⟩, ⟨e2, i2⟩⟩ := ex
        go_wp2_with fail
        refine (sItem _ _ i1).mono ?_
        rintro e w1 ⟨rfl, hb1⟩
        cases hx : itemB x
        · go_wp2
          go_ret
          exact ⟨ret_bool (by simp [tyOkB, HN.out hx]), ((Joins.below_alloc1 w _).trans (hbel.mono (by simp))).trans ((((Below.refl _ _).alloc (Nat.le_refl _) _).trans (hb1.mono (by simp))).mono (by omega))⟩
        · go_wp2
          go_roundw
          case rel => exact ⟨k + 1, by go_num, by omega, HY.out hx, hbel.trans ((((Below.refl _ _).alloc (Nat.le_refl _) _).trans (hb1.mono (by simp))).mono (by simp; omega))⟩
          case measure => simp [intOf]; omega
      · obtain rfl : k = l.length := by omega
        rw [List.take_length] at HA
        have HB := Lib.hid (show tyOkB l = decide (endF (l.length + 1) l 0 = (l.length : Int)) from by simp [tyOkB, HA.out]; omega)
        obtain ⟨hcl, hfr⟩ := bcell hbel
        have c0 : wr.cell? ⟨w.heap.size, 0, none⟩ = some (.slice p l.length cap) := by rw [hcl _ _ (by simp)]; simp
        clear hcl hfr hR
        have hlt0 : w.heap.size < wr.heap.size := by omega
        have HE := fun W (hK : Kept wr W) => Lib.hid (sEnd (l.length + 1) l _ 0 W ((hR0.kept TyIEl.st ((Kept.alloc _ _).trans (Kept.of_below hbel))).kept TyIEl.st hK) ⟨by omega, by omega⟩ (by omega))
        go_wp2_with fail
        go_region_held3 (fun w' => w'.cell? ⟨w.heap.size, 0, none⟩ = some (.slice p l.length cap) ∧ Kept wr w')
          (first | exact ⟨c0, Kept.refl _⟩ | exact ⟨c0, Kept.drew _⟩ | exact ⟨(hb1.cell (p := ⟨w.heap.size, 0, none⟩) hlt0).trans c0, (Kept.drew _).trans (Kept.of_below hb1)⟩)
          ((go_at_call 82; refine (HE _ (by first | exact Kept.drew _ | exact Kept.refl _)).out.mono ?_; rintro e w1 ⟨rfl, hb1⟩))
        go_wp2
        go_ret
        refine ⟨ret_bool ?_, (Joins.below_alloc1 w _).trans (hbel.drew.trans (hb1.mono (by simp; omega)) |>.mono (by simp))⟩
        rw [HB.out, Bool.eq_iff_iff]; simp
theorem sTyOkC (l : List TyI) (v : Value) (w : World) (hR : RowRd 3 TyIEl w v l) (hz : bTy l ≤ 1048576) :
    Calls Tryz.prog 49 #[.agg #[v]] w fun e w' => e = .returned (.bool (tyOkB l)) ∧ Below w.heap.size w w' := sTyOk l v w hR
end Go.Proofs.YtilincaedjhnpaaGreat
