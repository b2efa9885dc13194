/- Texts of this proof, merged: OkIMath, Text, OkW1, Own, OwnRow, OkW2, OkW3, OkY1, FnPN. -/
import Derived.Test.YtaibgnfjjbncpaaGreatM3
import Derived.Test.YtaibgnfjjbncpaaGreatRows
import Derived.WalkKit
import Derived.ProofKit
import Derived.OpenShut
import Derived.Lib.Hide
import Derived.WalkSmall
import Derived.Lib.SmallJoins
import Derived.StillTailTactics
import Derived.Shelf.Abstract
import Derived.Laws.EntriesVeiled
import Derived.Test.YtaibgnfjjbncpaaGreatM2
import Derived.Deep.QuietTactic
import Derived.BigQuiet
import Derived.Deep.RegionHeld3
import Derived.Deep.RegionWith
import Derived.Outline
import Derived.Maps.Own
import Derived.Maps.OwnSet
import Derived.Maps.Views
import Derived.Maps.Keyed
namespace Go.Proofs.YtaibgnfjjbncpaaGreat
set_option linter.unusedVariables false
set_option linter.unusedSimpArgs false
/-- The children of a place, one behind another: each walked, then shown to the visitor. -/
def iterS {σ : Type} (g : σ → Int → Int × σ) (V : σ → Nat → Int → Bool × σ) : Nat → Nat → Int → σ → Int × σ
  | 0, _, next, s => (next, s)
  | t + 1, d, next, s =>
    if (g s next).1 < 0 then (-1, (g s next).2)
    else if (V (g s next).2 (d + 1) (g s next).1).1 then iterS g V t (d + 1) (g s next).1 (V (g s next).2 (d + 1) (g s next).1).2
    else (-1, (V (g s next).2 (d + 1) (g s next).1).2)
/-- The walk over a tree in preorder with a visitor that may keep something. -/
def walkS {σ : Type} (V : σ → Nat → Nat → Int → Bool × σ) (cs : List Int) : Nat → σ → Int → Int × σ
  | 0, s, _ => (-1, s)
  | f + 1, s, a => match cs[a.toNat]? with
    | none => (-1, s)
    | some c => if (V s a.toNat 0 (a + 1)).1 then iterS (walkS V cs f) (fun s d n => V s a.toNat d n) c.toNat 0 (a + 1) (V s a.toNat 0 (a + 1)).2 else (-1, (V s a.toNat 0 (a + 1)).2)
theorem walkS_out {σ : Type} (V : σ → Nat → Nat → Int → Bool × σ) (cs : List Int) (f : Nat) (s : σ) (a : Int) (h : (cs.length : Int) ≤ a) : walkS V cs f s a = (-1, s) := by
  cases f with
  | zero => rfl
  | succ f => rw [walkS, List.getElem?_eq_none (by omega)]
theorem walkS_in {σ : Type} (V : σ → Nat → Nat → Int → Bool × σ) (cs : List Int) (f : Nat) (s : σ) (n : Nat) (h : n < cs.length) :
    walkS V cs (f + 1) s (n : Int) = if (V s n 0 ((n : Int) + 1)).1 then iterS (walkS V cs f) (fun s d m => V s n d m) cs[n].toNat 0 ((n : Int) + 1) (V s n 0 ((n : Int) + 1)).2 else (-1, (V s n 0 ((n : Int) + 1)).2) := by
  rw [walkS, Int.toNat_natCast, List.getElem?_eq_getElem h]
/-- It lies beyond its beginning, or there is none. -/
theorem iterS_gt {σ : Type} (g : σ → Int → Int × σ) (V : σ → Nat → Int → Bool × σ) (m : Int) (hg : ∀ s n, 0 ≤ n → (g s n).1 = -1 ∨ (n < (g s n).1 ∧ (g s n).1 ≤ m)) :
    ∀ t d (n : Int) s, 0 ≤ n → n ≤ m → (iterS g V t d n s).1 = -1 ∨ (n ≤ (iterS g V t d n s).1 ∧ (iterS g V t d n s).1 ≤ m) := by
  intro t
  induction t with
  | zero => intro d n s h hm; right; exact ⟨Int.le_refl _, hm⟩
  | succ t ih =>
    intro d n s h hm
    rw [iterS]
    split
    · left; rfl
    · rename_i h0
      rcases hg s n h with h1 | ⟨h1, h2⟩
      · omega
      · split
        · rcases ih (d + 1) (g s n).1 (V (g s n).2 (d + 1) (g s n).1).2 (by omega) h2 with h3 | ⟨h3, h4⟩
          · left; exact h3
          · right; exact ⟨by omega, h4⟩
        · left; rfl
theorem walkS_gt {σ : Type} (V : σ → Nat → Nat → Int → Bool × σ) (cs : List Int) : ∀ f s (a : Int), 0 ≤ a → (walkS V cs f s a).1 = -1 ∨ (a < (walkS V cs f s a).1 ∧ (walkS V cs f s a).1 ≤ cs.length) := by
  intro f
  induction f with
  | zero => intro s a h; left; rfl
  | succ f ih =>
    intro s a h
    by_cases hl : (cs.length : Int) ≤ a
    · left; rw [walkS_out _ _ _ _ _ hl]
    · obtain ⟨n, rfl⟩ : ∃ n : Nat, a = n := ⟨a.toNat, by omega⟩
      rw [walkS_in _ _ _ _ _ (by omega)]
      split
      · rcases iterS_gt (walkS V cs f) (fun s d m => V s n d m) cs.length ih _ 0 ((n : Int) + 1) _ (by omega) (by omega) with h1 | ⟨h1, h2⟩
        · left; exact h1
        · right; exact ⟨by omega, h2⟩
      · left; rfl
theorem iterS_neg {σ : Type} {g : σ → Int → Int × σ} {V : σ → Nat → Int → Bool × σ} {t d : Nat} {n r : Int} {s s2 : σ} (hg : g s n = (r, s2)) (h : r < 0) : iterS g V (t + 1) d n s = (-1, s2) := by
  rw [iterS, hg, if_pos h]
theorem iterS_no {σ : Type} {g : σ → Int → Int × σ} {V : σ → Nat → Int → Bool × σ} {t d : Nat} {n r : Int} {s s2 s3 : σ} (hg : g s n = (r, s2)) (h : ¬ r < 0) (hv : V s2 (d + 1) r = (false, s3)) : iterS g V (t + 1) d n s = (-1, s3) := by
  rw [iterS, hg, if_neg h]; show (if (V s2 (d + 1) r).1 = true then _ else (_, (V s2 (d + 1) r).2)) = _
  rw [hv]; rfl
theorem iterS_yes {σ : Type} {g : σ → Int → Int × σ} {V : σ → Nat → Int → Bool × σ} {t d : Nat} {n r : Int} {s s2 s3 : σ} (hg : g s n = (r, s2)) (h : ¬ r < 0) (hv : V s2 (d + 1) r = (true, s3)) : iterS g V (t + 1) d n s = iterS g V t (d + 1) r s3 := by
  rw [iterS, hg, if_neg h]; show (if (V s2 (d + 1) r).1 = true then iterS g V t (d + 1) r (V s2 (d + 1) r).2 else _) = _
  rw [hv]; rfl
/-! ### Types -/
def vTy (l : List TyI) : Unit → Nat → Nat → Int → Bool × Unit := fun _ a d _ => (decide (0 < d) || (match l[a]? with | some x => itemB x | none => false), ())
def okR (l : List TyI) (a b : Int) : Prop := ∀ i (h : i < l.length), a ≤ (i : Int) → (i : Int) < b → itemB l[i] = true
open Classical in
theorem ty_iter (l : List TyI) (f : Nat) (n : Nat) (ih : ∀ (a : Int), 0 ≤ a → (walkS (vTy l) (l.map TyI.arity) f () a).1 = if 0 ≤ endF f l a ∧ okR l a (endF f l a) then endF f l a else -1) :
    ∀ t d (next : Int), 0 ≤ next → (iterS (walkS (vTy l) (l.map TyI.arity) f) (fun s d m => vTy l s n d m) t d next ()).1 = if 0 ≤ iterE (endF f l) t next ∧ okR l next (iterE (endF f l) t next) then iterE (endF f l) t next else -1 := by
  intro t
  induction t with
  | zero =>
    intro d next h
    rw [iterS, iterE, if_pos ⟨h, fun i hi h1 h2 => by omega⟩]
  | succ t iht =>
    intro d next h
    have hE : iterE (endF f l) (t + 1) next = iterE (endF f l) t (endF f l next) := by rw [iterE, if_neg (by omega)]
    rw [iterS, hE]
    have hr := ih next h
    have hst : (walkS (vTy l) (l.map TyI.arity) f () next).2 = () := rfl
    by_cases hc : 0 ≤ endF f l next ∧ okR l next (endF f l next)
    · rw [if_pos hc] at hr
      rw [if_neg (by omega), hr]
      rw [if_pos (show (vTy l (walkS (vTy l) (l.map TyI.arity) f () next).2 n (d + 1) (endF f l next)).1 = true from by simp [vTy])]
      have := iht (d + 1) (endF f l next) hc.1
      rw [show (vTy l (walkS (vTy l) (l.map TyI.arity) f () next).2 n (d + 1) (endF f l next)).2 = () from rfl, this]
      have hg := iter_gt f l t (endF f l next) hc.1
      have hgt := endF_gt f l next
      congr 1
      apply propext
      constructor
      · rintro ⟨h1, h2⟩
        refine ⟨h1, fun i hi h3 h4 => ?_⟩
        by_cases h5 : (i : Int) < endF f l next
        · exact hc.2 i hi h3 h5
        · exact h2 i hi (by omega) h4
      · rintro ⟨h1, h2⟩
        exact ⟨h1, fun i hi h3 h4 => h2 i hi (by omega) h4⟩
    · rw [if_neg hc] at hr
      rw [if_pos (by omega)]
      symm
      apply if_neg
      rintro ⟨h1, h2⟩
      apply hc
      by_cases h3 : 0 ≤ endF f l next
      · refine ⟨h3, fun i hi h4 h5 => h2 i hi h4 ?_⟩
        rcases iter_gt f l t (endF f l next) h3 with h6 | h6 <;> omega
      · rw [iterE_neg _ _ _ (by omega)] at h1
        omega
open Classical in
theorem ty_walk (l : List TyI) : ∀ f (a : Int), 0 ≤ a → (walkS (vTy l) (l.map TyI.arity) f () a).1 = if 0 ≤ endF f l a ∧ okR l a (endF f l a) then endF f l a else -1 := by
  intro f
  induction f with
  | zero => intro a h; rw [if_neg (by simp [endF])]; rfl
  | succ f ih =>
    intro a h
    by_cases hl : (l.length : Int) ≤ a
    · rw [walkS_out _ _ _ _ _ (by simpa using hl), endF_out _ _ _ (.inr hl), if_neg (by omega)]
    · obtain ⟨n, rfl⟩ : ∃ n : Nat, a = n := ⟨a.toNat, by omega⟩
      have hn : n < l.length := by omega
      rw [walkS_in _ _ _ _ _ (by simpa using hn), endF_in f l n hn]
      have hv : (vTy l () n 0 ((n : Int) + 1)).1 = itemB l[n] := by simp [vTy, List.getElem?_eq_getElem hn]
      rw [hv, show (vTy l () n 0 ((n : Int) + 1)).2 = () from rfl, List.getElem_map]
      cases hi : itemB l[n]
      · rw [if_neg (by simp), if_neg]
        rintro ⟨h1, h2⟩
        rcases iter_gt f l l[n].arity.toNat ((n : Int) + 1) (by omega) with h3 | h3
        · omega
        · have := h2 n hn (by omega) (by omega)
          rw [hi] at this
          cases this
      · rw [if_pos rfl, ty_iter l f n ih _ 0 _ (by omega)]
        congr 1
        apply propext
        constructor
        · rintro ⟨h1, h2⟩
          refine ⟨h1, fun i hil h3 h4 => ?_⟩
          by_cases h5 : i = n
          · subst h5; exact hi
          · exact h2 i hil (by omega) h4
        · rintro ⟨h1, h2⟩
          exact ⟨h1, fun i hil h3 h4 => h2 i hil (by omega) h4⟩
/-- The program's way to say that a type is valid. -/
theorem ty_ok (l : List TyI) (h : l.length ≤ 200) : tyOkB l = decide ((walkS (vTy l) (l.map TyI.arity) (l.length + 1) () 0).1 = (l.length : Int)) := by
  rw [ty_walk l (l.length + 1) 0 (Int.le_refl _), Bool.eq_iff_iff]
  simp only [tyOkB, Bool.and_eq_true, decide_eq_true_eq, List.all_eq_true]
  constructor
  · rintro ⟨_, h1, h2⟩
    rw [h2, if_pos ⟨by omega, fun i hi _ _ => h1 _ (List.getElem_mem hi)⟩]
  · intro h1
    split at h1
    · rename_i h2
      refine ⟨h, fun x hx => ?_, h1⟩
      obtain ⟨i, hi, rfl⟩ := List.getElem_of_mem hx
      exact h2.2 i hi (by omega) (by omega)
    · omega
/-! ### Nodes in preorder -/
def vPre (l : List (List Int)) : Unit → Nat → Nat → Int → Bool × Unit := fun _ a d n => (match l[a]? with | some ks => decide (d = ks.length) || decide (ks[d]? = some n) | none => false, ())
def lens (l : List (List Int)) : List Int := l.map fun k => (k.length : Int)
theorem pre_iter (l : List (List Int)) (f n : Nat) (hn : n < l.length) (ih : ∀ (a : Int), 0 ≤ a → (walkS (vPre l) (lens l) f () a).1 = pendF f l a) :
    ∀ t d (next : Int), 0 ≤ next → d + t = l[n].length → (vPre l () n d next).1 = true → (iterS (walkS (vPre l) (lens l) f) (fun s d m => vPre l s n d m) t d next ()).1 = kidsE (pendF f l) (l[n].drop d) next := by
  intro t
  induction t with
  | zero =>
    intro d next h hd hv
    rw [iterS, List.drop_eq_nil_of_le (by omega)]; rfl
  | succ t iht =>
    intro d next h hd hv
    have hdl : d < l[n].length := by omega
    have hk : l[n][d] = next := by
      simp only [vPre, List.getElem?_eq_getElem hn, Bool.or_eq_true, decide_eq_true_eq, List.getElem?_eq_getElem hdl, Option.some.injEq] at hv
      rcases hv with hv | hv
      · omega
      · exact hv
    rw [iterS, ih next h]
    by_cases hc : pendF f l next < 0
    · rw [if_pos hc, kidsE_neg _ _ _ hdl _ hk hc]
    · rw [if_neg hc, kidsE_step _ _ _ hdl _ hk hc]
      show (if (vPre l () n (d + 1) (pendF f l next)).1 = true then iterS (walkS (vPre l) (lens l) f) (fun s d m => vPre l s n d m) t (d + 1) (pendF f l next) () else (-1, ())).1 = _
      cases hv2 : (vPre l () n (d + 1) (pendF f l next)).1
      · rw [if_neg (by simp)]
        simp only [vPre, List.getElem?_eq_getElem hn, Bool.or_eq_false_iff, decide_eq_false_iff_not] at hv2
        have hdl2 : d + 1 < l[n].length := by omega
        rw [List.getElem?_eq_getElem hdl2] at hv2
        rw [kidsE_no _ _ _ hdl2 _ (by simpa using hv2.2)]
      · rw [if_pos rfl]
        exact iht (d + 1) _ (by omega) (by omega) hv2
theorem pre_walk (l : List (List Int)) : ∀ f (a : Int), 0 ≤ a → (walkS (vPre l) (lens l) f () a).1 = pendF f l a := by
  intro f
  induction f with
  | zero => intro a h; rfl
  | succ f ih =>
    intro a h
    by_cases hl : (l.length : Int) ≤ a
    · rw [walkS_out _ _ _ _ _ (by simpa [lens] using hl), pendF_out _ _ _ hl]
    · obtain ⟨n, rfl⟩ : ∃ n : Nat, a = n := ⟨a.toNat, by omega⟩
      have hn : n < l.length := by omega
      rw [walkS_in _ _ _ _ _ (by simpa [lens] using hn), pendF_in f l n hn]
      have hcl : ((lens l)[n]'(by simpa [lens] using hn)).toNat = l[n].length := by simp [lens]
      rw [hcl, show (vPre l () n 0 ((n : Int) + 1)).2 = () from rfl]
      cases hv : (vPre l () n 0 ((n : Int) + 1)).1
      · rw [if_neg (by simp)]
        simp only [vPre, List.getElem?_eq_getElem hn, Bool.or_eq_false_iff, decide_eq_false_iff_not] at hv
        have hdl : 0 < l[n].length := by omega
        rw [List.getElem?_eq_getElem hdl] at hv
        have := kidsE_no (pendF f l) l[n] 0 hdl ((n : Int) + 1) (by simpa using hv.2)
        rw [List.drop_zero] at this
        rw [this]
      · rw [if_pos rfl, pre_iter l f n hn ih _ 0 _ (by omega) (by omega) hv, List.drop_zero]
/-- What is visited has its kids beyond it, and within. -/
theorem pend_kids (l : List (List Int)) : ∀ f (a : Int), 0 ≤ a → 0 ≤ pendF f l a → ∀ i (hi : i < l.length), a ≤ (i : Int) → (i : Int) < pendF f l a → ∀ k ∈ l[i], (i : Int) < k ∧ k < pendF f l a := by
  intro f
  induction f with
  | zero => intro a h h0; rw [pendF] at h0; omega
  | succ f ih =>
    intro a h h0 i hi hai hie k hk
    by_cases hl : (l.length : Int) ≤ a
    · rw [pendF_out _ _ _ hl] at h0; omega
    · obtain ⟨n, rfl⟩ : ∃ n : Nat, a = n := ⟨a.toNat, by omega⟩
      have hn : n < l.length := by omega
      rw [pendF_in f l n hn] at h0 hie ⊢
      -- the kids, from a place on
      have key : ∀ (ks : List Int) (next : Int), 0 ≤ next → 0 ≤ kidsE (pendF f l) ks next →
          (∀ k ∈ ks, next ≤ k ∧ k < kidsE (pendF f l) ks next) ∧ ∀ i (hi : i < l.length), next ≤ (i : Int) → (i : Int) < kidsE (pendF f l) ks next → ∀ k ∈ l[i], (i : Int) < k ∧ k < kidsE (pendF f l) ks next := by
        intro ks
        induction ks with
        | nil =>
          intro next hn0 hE
          refine ⟨fun k hk => (by simp at hk), fun i hi h1 h2 => ?_⟩
          rw [kidsE] at h2
          omega
        | cons y ks ihk =>
          intro next hn0 hE
          rw [kidsE] at hE ⊢
          by_cases hy : y = next
          · rw [if_pos hy] at hE ⊢
            by_cases hg : pendF f l y < 0
            · rw [if_pos hg] at hE; omega
            · rw [if_neg hg] at hE ⊢
              subst hy
              obtain ⟨g1, g2⟩ := ihk (pendF f l y) (by omega) hE
              have hgt := pendF_gt f l y
              have hge := kidsE_gt (pendF f l) (pendF_gt f l) ks (pendF f l y)
              refine ⟨fun k hk => ?_, fun i hi h1 h2 k hk => ?_⟩
              · rcases List.mem_cons.1 hk with rfl | hk
                · omega
                · have := g1 k hk; omega
              · by_cases h3 : (i : Int) < pendF f l y
                · have := ih y hn0 (by omega) i hi h1 h3 k hk
                  omega
                · exact g2 i hi (by omega) h2 k hk
          · rw [if_neg hy] at hE; omega
      obtain ⟨k1, k2⟩ := key l[n] ((n : Int) + 1) (by omega) h0
      by_cases hin : i = n
      · subst hin
        have := k1 k hk
        omega
      · exact k2 i hi (by omega) hie k hk
/-- The program's way to say that nodes are one tree in preorder. -/
def preB (l : List (List Int)) : Bool := decide (l.length ≤ 600) && decide ((walkS (vPre l) (lens l) (l.length + 1) () 0).1 = (l.length : Int))
theorem preB_iff (l : List (List Int)) : preB l = true ↔ 1 ≤ l.length ∧ l.length ≤ 600 ∧ pendF (l.length + 1) l 0 = l.length := by
  rw [preB, pre_walk _ _ _ (Int.le_refl _)]
  simp only [Bool.and_eq_true, decide_eq_true_eq]
  constructor
  · rintro ⟨h1, h2⟩
    refine ⟨?_, h1, h2⟩
    by_cases h0 : l.length = 0
    · rw [pendF_out _ _ _ (by omega)] at h2; omega
    · omega
  · rintro ⟨_, h1, h2⟩; exact ⟨h1, h2⟩
theorem preB_kids (l : List (List Int)) (h : preB l = true) (i : Nat) (hi : i < l.length) (k : Int) (hk : k ∈ l[i]) : (i : Int) < k ∧ k < l.length := by
  obtain ⟨_, _, h3⟩ := (preB_iff l).1 h
  have := pend_kids l (l.length + 1) 0 (Int.le_refl _) (by omega) i hi (by omega) (by omega) k hk
  omega
/-! ### Patterns, as the program sees them -/
def isConsB (x : PN) : Bool := decide (x.kind = 4) && decide (x.s.toList = [58, 58])
def firstPK (q : List PN) : List Int → Int
  | k :: _ => match q[k.toNat]? with
    | some y => y.kind
    | none => 0
  | [] => 0
def isPNB (x : PN) : Bool := pnodeB true x.kind x.n x.s x.kids.length
def rightPB (q : List PN) (x : PN) : Bool := isPNB x && (!isConsB x || decide (firstPK q x.kids = 5))
theorem conOk_p (s : ByteArray) (m : Int) (p : Bool) : conOkB s m p = (conOkB s m true && (!decide (s.toList = [58, 58]) || p)) := by
  unfold conOkB
  by_cases h : s.toList = [58, 58]
  · rw [if_pos h, if_pos h]; simp [h]
  · rw [if_neg h, if_neg h]; simp [h]
theorem pnode_p (p : Bool) (k n : Int) (s : ByteArray) (m : Int) : pnodeB p k n s m = (pnodeB true k n s m && (!(decide (k = 4) && decide (s.toList = [58, 58])) || p)) := by
  unfold pnodeB
  by_cases h4 : k = 4
  · subst h4
    rw [if_neg (by decide), if_neg (by decide), if_neg (by decide), if_pos rfl, if_neg (by decide), if_neg (by decide), if_neg (by decide), if_pos rfl, conOk_p s m p]
    simp [Bool.and_assoc]
  · rw [if_neg h4]
    simp [h4]
theorem isPN_cons (x : PN) (h : isPNB x = true) (hc : isConsB x = true) : x.kids.length = 1 := by
  simp only [isConsB, Bool.and_eq_true, decide_eq_true_eq] at hc
  obtain ⟨h4, hs⟩ := hc
  unfold isPNB pnodeB at h
  rw [h4] at h
  rw [if_neg (by decide), if_neg (by decide), if_neg (by decide), if_pos rfl] at h
  unfold conOkB at h
  rw [if_pos hs] at h
  simp at h
  omega
theorem pnB_right (q : List PN) (x : PN) (hk : ∀ k ∈ x.kids, 0 ≤ k ∧ k < (q.length : Int)) : pnB q x = rightPB q x := by
  unfold pnB rightPB isPNB
  rw [pnode_p]
  by_cases hc : isConsB x = true
  · by_cases h : isPNB x = true
    · have h1 := isPN_cons x h hc
      obtain ⟨k, hkk⟩ : ∃ k, x.kids = [k] := List.length_eq_one_iff.1 h1
      have := hk k (by simp [hkk])
      rw [show (decide (x.kind = 4) && decide (x.s.toList = [58, 58])) = isConsB x from rfl, hc, hkk]
      have hg := List.getElem?_eq_getElem (show k.toNat < q.length by omega)
      rw [show pairB q [k] = decide (firstPK q [k] = 5) from by simp [pairB, firstPK, hg, this.1]]
    · have h' : pnodeB true x.kind x.n x.s x.kids.length = false := by simpa [isPNB] using h
      rw [h']; simp
  · have hc' : (decide (x.kind = 4) && decide (x.s.toList = [58, 58])) = false := by simpa [isConsB] using hc
    rw [show isConsB x = false from by simpa using hc, hc']
    simp
def TwiceP (q : List PN) : Prop := ∃ i k, ∃ (hi : i < q.length) (hk : k < i), clash q[i] q[k]
theorem propB_iff {P : Prop} : propB P = true ↔ P := by
  constructor
  · intro h
    rcases Classical.em P with h' | h'
    · exact h'
    · rw [propB_f h'] at h; cases h
  · exact propB_t
theorem pat_kids (q : List PN) (h : preB (q.map PN.kids) = true) : ∀ x ∈ q, ∀ k ∈ x.kids, 0 ≤ k ∧ k < (q.length : Int) := by
  intro x hx k hk
  obtain ⟨i, hi, rfl⟩ := List.getElem_of_mem hx
  have := preB_kids (q.map PN.kids) h i (by simpa using hi) k (by simpa using hk)
  rw [List.length_map] at this
  omega
theorem pat_ok (q : List PN) : patOkB q = (preB (q.map PN.kids) && (q.all (rightPB q) && !propB (TwiceP q))) := by
  rw [Bool.eq_iff_iff, patOkB, propB_iff]
  simp only [Bool.and_eq_true, Bool.not_eq_true']
  rw [preB_iff]
  simp only [List.length_map]
  constructor
  · rintro ⟨h1, h2, h3, h4⟩
    have hp : preB (q.map PN.kids) = true := (preB_iff _).2 ⟨by simpa using h1, by simpa using h2, by simpa using h4⟩
    refine ⟨⟨h1, h2, h4⟩, List.all_eq_true.2 fun x hx => ?_, propB_f ?_⟩
    · obtain ⟨i, hi, rfl⟩ := List.getElem_of_mem hx
      rw [← pnB_right q _ (pat_kids q hp _ hx)]
      exact (h3 i hi).1
    · rintro ⟨i, k, hi, hk, hc⟩
      exact (h3 i hi).2 k hk hc
  · rintro ⟨⟨h1, h2, h4⟩, h5, h6⟩
    have hp : preB (q.map PN.kids) = true := (preB_iff _).2 ⟨by simpa using h1, by simpa using h2, by simpa using h4⟩
    refine ⟨h1, h2, fun i hi => ⟨?_, fun k hk hc => ?_⟩, h4⟩
    · rw [pnB_right q _ (pat_kids q hp _ (List.getElem_mem hi))]
      exact List.all_eq_true.1 h5 _ (List.getElem_mem hi)
    · have := propB_t (P := TwiceP q) ⟨i, k, hi, hk, hc⟩
      rw [h6] at this; cases this
/-! ### Programs, as the program sees them -/
def firstNK (p : List Nd) : List Int → Int
  | k :: _ => match p[k.toNat]? with
    | some y => y.kind
    | none => 0
  | [] => 0
def rnB (x : Nd) : Bool := if x.kind = 1 then decide (0 ≤ x.n) && decide (x.n ≤ 4611686018427387903) else decide (x.n = 0)
def rsB (x : Nd) : Bool := if x.kind = 2 then true else if x.kind = 3 ∨ x.kind = 5 ∨ x.kind = 7 ∨ x.kind = 8 ∨ x.kind = 15 then nameB x.s else if x.kind = 4 then conOkB x.s x.kids.length true else if x.kind = 10 then primB x.s else decide (x.s.toList = [])
def rkB (k : Int) (m : Int) : Bool :=
  if k = 1 ∨ k = 2 ∨ k = 3 ∨ k = 12 then decide (m = 0) else if k = 4 then decide (m ≤ 1) else if k = 5 ∨ k = 14 ∨ k = 16 ∨ k = 17 then decide (m = 1)
  else if k = 6 ∨ k = 7 ∨ k = 8 ∨ k = 10 ∨ k = 11 ∨ k = 15 ∨ k = 18 ∨ k = 19 then decide (m = 2) else if k = 9 then decide (m = 3) else if k = 13 then decide (2 ≤ m) else false
noncomputable def rpB (x : Nd) : Bool := if x.kind = 13 then decide ((x.pats.length : Int) = (x.kids.length : Int) - 1) && x.pats.all patOkB else decide (x.pats.length = 0)
def isConsN (x : Nd) : Bool := decide (x.kind = 4) && decide (x.s.toList = [58, 58])
def rfB (p : List Nd) (x : Nd) : Bool := if x.kind = 8 then decide (firstNK p x.kids = 5) else if isConsN x = true then decide (firstNK p x.kids = 11) else true
noncomputable def isNodeB (x : Nd) : Bool := decide (0 ≤ x.at_) && (rnB x && (rsB x && (rkB x.kind x.kids.length && rpB x)))
noncomputable def rightNB (p : List Nd) (x : Nd) : Bool := isNodeB x && rfB p x
theorem patOkB_iff (q : List PN) : patOkB q = true ↔ PatOkP q := propB_iff
theorem first_eq (p : List Nd) (ks : List Int) (c : Int) (hc : c ≠ 0) (hk : ∀ k ∈ ks, 0 ≤ k ∧ k < (p.length : Int)) : firstKind p ks = some c ↔ firstNK p ks = c := by
  cases ks with
  | nil => simp [firstKind, firstNK]; omega
  | cons k ks =>
    have := hk k (by simp)
    simp only [firstKind, firstNK]
    rw [List.getElem?_eq_getElem (show k.toNat < p.length by omega)]
    simp
theorem isNode_first (x : Nd) (h : isNodeB x = true) (hc : x.kind = 8 ∨ isConsN x = true) : 1 ≤ x.kids.length := by
  simp only [isNodeB, Bool.and_eq_true] at h
  obtain ⟨_, _, h3, h4, _⟩ := h
  rcases hc with hc | hc
  · rw [hc] at h4; simp [rkB] at h4; omega
  · simp only [isConsN, Bool.and_eq_true, decide_eq_true_eq] at hc
    unfold rsB at h3
    rw [hc.1] at h3
    rw [if_neg (by decide), if_neg (by decide), if_pos rfl] at h3
    unfold conOkB at h3
    rw [if_pos hc.2] at h3
    simp at h3
    omega
theorem nd_right (p : List Nd) (x : Nd) (hk : ∀ k ∈ x.kids, 0 ≤ k ∧ k < (p.length : Int)) : NdOkP p x ↔ rightNB p x = true := by
  have f5 := first_eq p x.kids 5 (by decide) hk
  have f11 := first_eq p x.kids 11 (by decide) hk
  by_cases hr : 1 ≤ x.kind ∧ x.kind ≤ 19
  · have hc : x.kind = 1 ∨ x.kind = 2 ∨ x.kind = 3 ∨ x.kind = 4 ∨ x.kind = 5 ∨ x.kind = 6 ∨ x.kind = 7 ∨ x.kind = 8 ∨ x.kind = 9 ∨ x.kind = 10 ∨ x.kind = 11 ∨ x.kind = 12 ∨ x.kind = 13 ∨ x.kind = 14 ∨ x.kind = 15 ∨ x.kind = 16 ∨ x.kind = 17 ∨ x.kind = 18 ∨ x.kind = 19 := by omega
    by_cases h4 : x.kind = 4
    · simp only [NdOkP, NdHead, NdText, NdRest, rightNB, isNodeB, rnB, rsB, rpB, rfB, rkB, namedK, h4, isConsN]
      rw [conOk_p, show decide (firstKind p x.kids = some 11) = decide (firstNK p x.kids = 11) from by rw [Bool.eq_iff_iff]; simpa using f11]
      by_cases hs : x.s.toList = [58, 58]
      · have h1 : conOkB x.s x.kids.length true = decide ((x.kids.length : Int) = 1) := by unfold conOkB; rw [if_pos hs]; simp
        simp [hs, h1]
        constructor
        · rintro ⟨⟨a, b, c, d⟩, e, f, g⟩
          have : x.kids.length = 1 := by omega
          simp_all
        · rintro ⟨⟨a, b, c, d, e⟩, f⟩
          have : x.kids.length = 1 := by omega
          simp_all
      · simp [hs]
        constructor
        · rintro ⟨⟨a, b, c⟩, d, e, f⟩
          refine ⟨a, b, f, ?_, e⟩
          unfold conOkB at f
          rw [if_neg hs] at f
          split at f
          · simp only [decide_eq_true_eq] at f; omega
          · simp at f; omega
        · rintro ⟨a, b, c, d, e⟩
          exact ⟨⟨a, b, by omega⟩, hk, e, c⟩
    · have hc' := hc
      clear hc
      by_cases h13 : x.kind = 13
      · simp [NdOkP, NdHead, NdText, NdRest, rightNB, isNodeB, rnB, rsB, rpB, rfB, rkB, namedK, h13, isConsN, patOkB_iff]
        constructor
        · rintro ⟨⟨a, b, c⟩, d, e, f, g, h⟩
          exact ⟨a, b, e, by omega, by omega, f⟩
        · rintro ⟨a, b, e, f, g, h⟩
          exact ⟨⟨a, b, by omega⟩, hk, e, h, by omega, by omega⟩
      · rcases hc' with h | h | h | h | h | h | h | h | h | h | h | h | h | h | h | h | h | h | h
        all_goals first
          | exact absurd h h4
          | exact absurd h h13
          | (simp [NdOkP, NdHead, NdText, NdRest, rightNB, isNodeB, rnB, rsB, rpB, rfB, rkB, namedK, kidsN, h, isConsN, ← f5]
             constructor
             · intro hh; simp_all
             · intro hh; simp_all
             done)
          | (simp [NdOkP, NdHead, NdText, NdRest, rightNB, isNodeB, rnB, rsB, rpB, rfB, rkB, namedK, kidsN, h, ← f5]
             constructor
             · intro hh; simp_all; try omega
             · intro hh; simp_all; try omega)
  · constructor
    · intro h
      exact absurd ⟨h.1.1, h.1.2.1⟩ hr
    · intro h
      simp only [rightNB, isNodeB, Bool.and_eq_true] at h
      have h4 := h.1.2.2.2.1
      unfold rkB at h4
      exfalso
      repeat' (split at h4)
      all_goals first | omega | cases h4
noncomputable def isConB (params : Int) (c : Cn) : Bool := conB c.name && (if c.has = false then decide (c.arg.length = 0) else tyOkB c.arg && c.arg.all fun x => !decide (x.name.toList = []) || decide (x.var < params))
noncomputable def isTypeB (t : Tp) : Bool := nameB t.name && (decide (0 ≤ t.params) && (decide (t.params ≤ 2) && (decide (1 ≤ t.cons.length) && (decide (t.cons.length ≤ 8) && t.cons.all (isConB t.params)))))
theorem cn_ok (params : Int) (c : Cn) : CnOkP params c ↔ isConB params c = true := by
  unfold CnOkP isConB
  cases c.has
  · simp
  · simp
    intro h1
    constructor
    · rintro ⟨a, b⟩
      refine ⟨b, fun x hx => ?_⟩
      rcases Classical.em (x.name.toList = []) with h | h
      · right; exact a x hx h
      · left; exact h
    · rintro ⟨a, b⟩
      refine ⟨fun x hx h => ?_, a⟩
      rcases b x hx with h' | h'
      · exact absurd h h'
      · exact h'
theorem tp_ok (t : Tp) : TpOkP t ↔ isTypeB t = true := by
  unfold TpOkP isTypeB
  simp only [Bool.and_eq_true, decide_eq_true_eq, List.all_eq_true]
  constructor
  · rintro ⟨a, b, c, d, e, f⟩; exact ⟨a, b, c, d, e, fun x hx => (cn_ok _ _).1 (f x hx)⟩
  · rintro ⟨a, b, c, d, e, f⟩; exact ⟨a, b, c, d, e, fun x hx => (cn_ok _ _).2 (f x hx)⟩
theorem pg_kids (l : List Nd) (h : preB (l.map Nd.kids) = true) : ∀ x ∈ l, ∀ k ∈ x.kids, 0 ≤ k ∧ k < (l.length : Int) := by
  intro x hx k hk
  obtain ⟨i, hi, rfl⟩ := List.getElem_of_mem hx
  have := preB_kids (l.map Nd.kids) h i (by simpa using hi) k (by simpa using hk)
  rw [List.length_map] at this
  omega
theorem pg_ok (p : Pg) : pgOkB p = (decide (p.types.length ≤ 8) && (p.types.all isTypeB && (preB (p.nodes.map Nd.kids) && p.nodes.all (rightNB p.nodes)))) := by
  rw [Bool.eq_iff_iff, pgOkB, propB_iff]
  simp only [Bool.and_eq_true, decide_eq_true_eq, List.all_eq_true]
  rw [preB_iff]
  simp only [List.length_map]
  constructor
  · rintro ⟨h1, h2, h3, h4, h5, h6⟩
    have hp : preB (p.nodes.map Nd.kids) = true := (preB_iff _).2 ⟨by simpa using h1, by simpa using h2, by simpa using h6⟩
    exact ⟨h3, fun t ht => (tp_ok t).1 (h4 t ht), ⟨h1, h2, h6⟩, fun x hx => (nd_right _ x (pg_kids _ hp x hx)).1 (h5 x hx)⟩
  · rintro ⟨h3, h4, ⟨h1, h2, h6⟩, h5⟩
    have hp : preB (p.nodes.map Nd.kids) = true := (preB_iff _).2 ⟨by simpa using h1, by simpa using h2, by simpa using h6⟩
    exact ⟨h1, h2, h3, fun t ht => (tp_ok t).2 (h4 t ht), fun x hx => (nd_right _ x (pg_kids _ hp x hx)).2 (h5 x hx), h6⟩
end Go.Proofs.YtaibgnfjjbncpaaGreat
namespace Go.Proofs.YtaibgnfjjbncpaaGreat
set_option linter.unusedVariables false
open Go.ChangeShapes Go.WideShapes Go.ChangeAt Go.RowKit

theorem ret_int' {k : IntKind} {a b : Int} (h : a = b) : Ending.returned (.int k a) = .returned (.int k b) := by rw [h]
theorem ret_bool {a b : Bool} (h : a = b) : Ending.returned (.bool a) = .returned (.bool b) := by rw [h]

theorem isLower (c : Int) (w : World) (h : 0 ≤ c ∧ c ≤ 255) :
    Calls Tryz.prog 110 #[.int .u8 c] w fun e w' => e = .returned (.bool (lowB c)) ∧ w = w' := by
  go_enter Tryz.func110, Tryz.ntmps110
  go_wp2
  all_goals
    go_ret
    exact ⟨ret_bool (by simp only [lowB]; simp; try omega), rfl⟩
theorem isUpper (c : Int) (w : World) (h : 0 ≤ c ∧ c ≤ 255) :
    Calls Tryz.prog 130 #[.int .u8 c] w fun e w' => e = .returned (.bool (upB c)) ∧ w = w' := by
  go_enter Tryz.func130, Tryz.ntmps130
  go_wp2
  all_goals
    go_ret
    exact ⟨ret_bool (by simp only [upB]; simp; try omega), rfl⟩
theorem isDigit (c : Int) (w : World) (h : 0 ≤ c ∧ c ≤ 255) :
    Calls Tryz.prog 154 #[.int .u8 c] w fun e w' => e = .returned (.bool (digB c)) ∧ w = w' := by
  go_enter Tryz.func154, Tryz.ntmps154
  go_wp2
  all_goals
    go_ret
    exact ⟨ret_bool (by simp only [digB]; simp; try omega), rfl⟩
theorem isWordByte (c : Int) (w : World) (h : 0 ≤ c ∧ c ≤ 255) :
    Calls Tryz.prog 136 #[.int .u8 c] w fun e w' => e = .returned (.bool (wbB c)) ∧ w = w' := by
  cases h1 : lowB c <;> cases h2 : upB c <;> cases h3 : digB c
  all_goals
    go_enter Tryz.func136, Tryz.ntmps136
    go_wp2_with (first | (go_at_call 110; refine (isLower _ _ h).mono ?_; rintro e w' ⟨rfl, rfl⟩) | (go_at_call 130; refine (isUpper _ _ h).mono ?_; rintro e w' ⟨rfl, rfl⟩) | (go_at_call 154; refine (isDigit _ _ h).mono ?_; rintro e w' ⟨rfl, rfl⟩))
    go_ret
    exact ⟨ret_bool (by simp [wbB, h1, h2, h3]), rfl⟩
theorem byte_bd (c : UInt8) : 0 ≤ (c.toNat : Int) ∧ (c.toNat : Int) ≤ 255 := by have := c.toNat_lt; omega

theorem isWord (s : ByteArray) (w : World) (hs : s.size ≤ maxLen) :
    Calls Tryz.prog 109 #[.string s] w fun e w' => e = .returned (.bool (wordB s)) ∧ w = w' := by
  unfold maxLen at hs
  by_cases h0 : 1 ≤ s.size
  · by_cases h1 : s.size ≤ 12
    · go_enter Tryz.func109, Tryz.ntmps109
      go_wp2
      go_loop [3] (fun i => ∃ k : Nat, k ≤ s.size ∧ i = .int .i64 k ∧ allB (s.data.toList.take k) = true) (fun i => s.size - (intOf i).toNat)
      case atStart => exact ⟨0, Nat.zero_le _, rfl, rfl⟩
      case round =>
        obtain ⟨k, hk, rfl, hall⟩ := hrel
        have HA := Lib.hid hall
        clear hall
        by_cases hlt : k < s.size
        · go_wp2_with (go_at_call 136; refine (isWordByte _ _ (byte_bd _)).mono ?_; rintro e w' ⟨rfl, rfl⟩)
          · go_ret
            exact ⟨ret_bool (by rw [wordB, allB_no s k hlt (by simpa using ‹(!wbB ↑s[k].toNat) = true›), Bool.and_false]), rfl⟩
          · go_round
            case rel => exact ⟨k + 1, by omega, by go_num, allB_step s k hlt HA.out (by simpa using ‹(!wbB ↑s[k].toNat) = false›)⟩
            case measure => simp [intOf]; omega
        · obtain rfl : k = s.size := by omega
          go_wp2
          go_ret
          exact ⟨ret_bool (by rw [wordB, allB_end s HA.out]; simp [lenB]; omega), rfl⟩
    · go_enter Tryz.func109, Tryz.ntmps109
      go_wp2
      go_ret
      exact ⟨ret_bool (by simp [wordB, lenB, h1]), rfl⟩
  · go_enter Tryz.func109, Tryz.ntmps109
    go_wp2
    go_ret
    exact ⟨ret_bool (by simp [wordB, lenB, h0]), rfl⟩

theorem isKeyword (s : ByteArray) (w : World) :
    Calls Tryz.prog 111 #[.string s] w fun e w' => e = .returned (.bool (kwB s)) ∧ w = w' := by
  go_enter Tryz.func111, Tryz.ntmps111
  go_wp2
  all_goals
    go_ret
    first | exact ⟨ret_bool (by simp only [kwB, kws, List.any_cons, List.any_nil, *]; rfl), rfl⟩ | (exfalso; simp_all; done)

theorem l01Class (c : Int) (w : World) (h : 0 ≤ c ∧ c ≤ 255) :
    Calls Tryz.prog 91 #[.int .u8 c] w fun e w' => e = .returned (.int .i64 (clsI c)) ∧ w = w' := by
  go_enter Tryz.func91, Tryz.ntmps91
  go_wp2
  all_goals
    go_ret
    refine ⟨ret_int' ?_, rfl⟩
    rw [cls_if]
    try simp only [beq_iff_eq, beq_eq_false_iff_ne, ne_eq] at *
    (repeat' split) <;> first | rfl | (exfalso; omega)

theorem l01Kept (s : ByteArray) (w : World) :
    Calls Tryz.prog 51 #[.string s] w fun e w' => e = .returned (.bool (kwB s)) ∧ Below w.heap.size w w' := by
  go_enter Tryz.func51, Tryz.ntmps51
  go_wp2
  go_loop [7] (fun i => ∃ k : Nat, k ≤ 17 ∧ i = .int .i64 k ∧ (kws.take k).any (fun x => s.toList == x) = false) (fun i => 17 - (intOf i).toNat)
  case atStart => exact ⟨0, Nat.zero_le _, rfl, rfl⟩
  case round =>
    obtain ⟨k, hk, rfl, hno⟩ := hrel
    have HN := Lib.hid hno
    clear hno
    by_cases hlt : k < 17
    · have hc : k = 0 ∨ k = 1 ∨ k = 2 ∨ k = 3 ∨ k = 4 ∨ k = 5 ∨ k = 6 ∨ k = 7 ∨ k = 8 ∨ k = 9 ∨ k = 10 ∨ k = 11 ∨ k = 12 ∨ k = 13 ∨ k = 14 ∨ k = 15 ∨ k = 16 := by omega
      clear hlt hk
      rcases hc with rfl | rfl | rfl | rfl | rfl | rfl | rfl | rfl | rfl | rfl | rfl | rfl | rfl | rfl | rfl | rfl | rfl
      all_goals
        go_wp2
        · have hx := ‹(s.toList == _) = true›
          go_ret
          exact ⟨ret_bool (kw_yes s _ (by decide) hx), (Below.refl _ _).alloc (Nat.le_refl _) _⟩
        · go_round
          case rel => exact ⟨_ + 1, by omega, by go_num, kw_step s _ _ rfl HN.out ‹_›⟩
          case measure => simp [intOf]
    · obtain rfl : k = 17 := by omega
      go_wp2
      go_ret
      exact ⟨ret_bool (by rw [kwB]; exact HN.out.symm), (Below.refl _ _).alloc (Nat.le_refl _) _⟩

theorem l01Word_short (s : ByteArray) (f : Int) (w : World) (hs : s.size ≤ maxLen) (h : lenB s = false) :
    Calls Tryz.prog 50 #[.string s, .int .i64 f] w fun e w' => e = .returned (.bool false) ∧ w = w' := by
  unfold maxLen at hs
  unfold lenB at h
  by_cases h0 : 1 ≤ s.size
  · have h1 : ¬ s.size ≤ 12 := by intro h1; simp [h0, h1] at h
    clear h
    go_enter Tryz.func50, Tryz.ntmps50
    go_wp2
    go_ret
    exact ⟨rfl, rfl⟩
  · clear h
    go_enter Tryz.func50, Tryz.ntmps50
    go_wp2
    go_ret
    exact ⟨rfl, rfl⟩
theorem l01Word_first (s : ByteArray) (f : Int) (w : World) (h0 : 1 ≤ s.size) (h1 : s.size ≤ 12) (h : (clsI (s[0].toNat : Int) == f) = false) :
    Calls Tryz.prog 50 #[.string s, .int .i64 f] w fun e w' => e = .returned (.bool false) ∧ w = w' := by
  have h' : (clsI (s[0].toNat : Int) != f) = true := by simpa using h
  go_enter Tryz.func50, Tryz.ntmps50
  go_wp2_with (go_at_call 91; refine (l01Class _ _ (byte_bd _)).mono ?_; rintro e w' ⟨rfl, rfl⟩)
  go_ret
  exact ⟨rfl, rfl⟩
theorem l01Word_long (s : ByteArray) (f : Int) (w : World) (h0 : 1 ≤ s.size) (h1 : s.size ≤ 12) (h : (clsI (s[0].toNat : Int) == f) = true) :
    Calls Tryz.prog 50 #[.string s, .int .i64 f] w fun e w' => e = .returned (.bool (allB s.data.toList)) ∧ w = w' := by
  have h' : (clsI (s[0].toNat : Int) != f) = false := by simpa using h
  go_enter Tryz.func50, Tryz.ntmps50
  go_wp2_with (go_at_call 91; refine (l01Class _ _ (byte_bd _)).mono ?_; rintro e w' ⟨rfl, rfl⟩)
  clear h h'
  go_loop [5] (fun i => ∃ k : Nat, k ≤ s.size ∧ i = .int .i64 k ∧ allB (s.data.toList.take k) = true) (fun i => s.size - (intOf i).toNat)
  case atStart => exact ⟨0, Nat.zero_le _, rfl, rfl⟩
  case round =>
    obtain ⟨k, hk, rfl, hall⟩ := hrel
    have HA := Lib.hid hall
    clear hall
    by_cases hlt : k < s.size
    · go_wp2_with (go_at_call 91; refine (l01Class _ _ (byte_bd _)).mono ?_; rintro e w' ⟨rfl, rfl⟩)
      · have hx := ‹(clsI ↑s[k].toNat == 0) = true›
        rw [cls_zero] at hx
        go_ret
        exact ⟨ret_bool (by rw [allB_no s k hlt (by simpa using hx)]), rfl⟩
      · have hx := ‹(clsI ↑s[k].toNat == 0) = false›
        rw [cls_zero] at hx
        go_round
        case rel => exact ⟨k + 1, by omega, by go_num, allB_step s k hlt HA.out (by simpa using hx)⟩
        case measure => simp [intOf]; omega
    · obtain rfl : k = s.size := by omega
      go_wp2
      go_ret
      exact ⟨ret_bool (allB_end s HA.out).symm, rfl⟩
/-- The word test of the model: of whatever class f asks for. -/
theorem l01Word (s : ByteArray) (f : Int) (g : Int → Bool) (w : World) (hs : s.size ≤ maxLen) (hg : ∀ c, (clsI c == f) = g c) :
    Calls Tryz.prog 50 #[.string s, .int .i64 f] w fun e w' => e = .returned (.bool (wordB s && g (fst s))) ∧ w = w' := by
  cases hl : lenB s
  · exact (l01Word_short s f w hs hl).mono fun e w' ⟨he, hw⟩ => ⟨by rw [he]; simp [wordB, hl], hw⟩
  · have h01 : 1 ≤ s.size ∧ s.size ≤ 12 := by simpa [lenB] using hl
    obtain ⟨h0, h1⟩ := h01
    have hf := fst_get s h0
    cases hc : (clsI (s[0].toNat : Int) == f)
    · exact (l01Word_first s f w h0 h1 hc).mono fun e w' ⟨he, hw⟩ => ⟨by rw [he, ← hg, hf, hc]; simp, hw⟩
    · exact (l01Word_long s f w h0 h1 hc).mono fun e w' ⟨he, hw⟩ => ⟨by rw [he, ← hg, hf, hc]; simp [wordB, hl], hw⟩

theorem sNameOk (s : ByteArray) (w : World) (hs : s.size ≤ maxLen) :
    Calls Tryz.prog 24 #[.string s] w fun e w' => e = .returned (.bool (nameB s)) ∧ Below w.heap.size w w' := by
  cases h1 : wordB s && lowB (fst s) <;> cases h2 : kwB s
  all_goals
    go_enter Tryz.func24, Tryz.ntmps24
    go_wp2_with (first | (go_at_call 50; refine (l01Word _ _ lowB _ hs cls_one).mono ?_; rintro e w' ⟨rfl, rfl⟩) | (go_at_call 51; refine (l01Kept _ _).mono ?_; rintro e w1 ⟨rfl, hg⟩))
    go_ret
    refine ⟨ret_bool (by rw [nameB, ← Bool.and_assoc, h1, h2]; rfl), ?_⟩
    first | exact Below.refl _ _ | assumption
theorem sConOk (s : ByteArray) (w : World) (hs : s.size ≤ maxLen) :
    Calls Tryz.prog 52 #[.string s] w fun e w' => e = .returned (.bool (conB s)) ∧ w = w' := by
  go_enter Tryz.func52, Tryz.ntmps52
  go_wp2_with (go_at_call 50; refine (l01Word _ _ upB _ hs cls_two).mono ?_; rintro e w' ⟨rfl, rfl⟩)
  go_ret
  exact ⟨rfl, rfl⟩
theorem word_pos (s : ByteArray) (h : wordB s = true) : 0 < s.size := by
  simp [wordB, lenB] at h; omega
theorem iConOk (s : ByteArray) (w : World) (hs : s.size ≤ maxLen) :
    Calls Tryz.prog 105 #[.string s] w fun e w' => e = .returned (.bool (conB s)) ∧ w = w' := by
  cases h1 : wordB s
  · go_enter Tryz.func105, Tryz.ntmps105
    go_wp2_with (go_at_call 109; refine (isWord _ _ hs).mono ?_; rintro e w' ⟨rfl, rfl⟩)
    go_ret
    exact ⟨ret_bool (by rw [conB, h1]; rfl), rfl⟩
  · have h0 := word_pos s h1
    have hf := Lib.hid (fst_get s h0)
    go_enter Tryz.func105, Tryz.ntmps105
    go_wp2_with (first | (go_at_call 109; refine (isWord _ _ hs).mono ?_; rintro e w' ⟨rfl, rfl⟩) | (go_at_call 130; refine (isUpper _ _ (byte_bd _)).mono ?_; rintro e w' ⟨rfl, rfl⟩))
    go_ret
    exact ⟨ret_bool (by rw [conB, h1, hf.out]; rfl), rfl⟩
theorem iNameOk (s : ByteArray) (w : World) (hs : s.size ≤ maxLen) :
    Calls Tryz.prog 75 #[.string s] w fun e w' => e = .returned (.bool (nameB s)) ∧ w = w' := by
  cases h1 : wordB s
  · go_enter Tryz.func75, Tryz.ntmps75
    go_wp2_with (go_at_call 109; refine (isWord _ _ hs).mono ?_; rintro e w' ⟨rfl, rfl⟩)
    go_ret
    exact ⟨ret_bool (by rw [nameB, h1]; rfl), rfl⟩
  · have h0 := word_pos s h1
    have hf := Lib.hid (fst_get s h0)
    cases h2 : lowB (s[0].toNat : Int) <;> cases h3 : kwB s
    all_goals
      go_enter Tryz.func75, Tryz.ntmps75
      go_wp2_with (first | (go_at_call 109; refine (isWord _ _ hs).mono ?_; rintro e w' ⟨rfl, rfl⟩) | (go_at_call 110; refine (isLower _ _ (byte_bd _)).mono ?_; rintro e w' ⟨rfl, rfl⟩) | (go_at_call 111; refine (isKeyword _ _).mono ?_; rintro e w' ⟨rfl, rfl⟩))
      go_ret
      exact ⟨ret_bool (by rw [nameB, h1, hf.out, h2, h3]; rfl), rfl⟩
end Go.Proofs.YtaibgnfjjbncpaaGreat
namespace Go.Proofs.YtaibgnfjjbncpaaGreat
set_option linter.unusedVariables false
set_option maxRecDepth 100000
open Go.ChangeShapes Go.WideShapes Go.ChangeAt Go.RowKit

theorem iWalk {σ : Type} (V : σ → Nat → Nat → Int → Bool × σ) (J : σ → World → Prop) (g : Nat) (lb : Array Value) (eg : ∀ args w, (callFunc g args).run Tryz.prog w = .ok (.enter g args) w) (cs : List Int) (v : Value) (hl : cs.length ≤ 1048576)
    (hJ : ∀ s W, J s W → RowRd 1 IntEl W v cs)
    (hV : ∀ s W (a d : Nat) (n : Int) (h : a < cs.length), J s W → d ≤ cs[a].toNat → 0 ≤ n → n ≤ cs.length → Calls Tryz.prog g (#[.int .i64 a, .int .i64 d, .int .i64 n] ++ lb) W fun e w' => e = .returned (.bool (V s a d n).1) ∧ J (V s a d n).2 w') :
    ∀ (f : Nat) (s : σ) (a : Nat) (w : World) (hs : J s w) (ha : a ≤ cs.length) (hf : cs.length < a + f),
      Calls Tryz.prog 80 #[v, .int .i64 a, .func (.func g) #[] lb] w fun e w' => e = .returned (.int .i64 (walkS V cs f s a).1) ∧ J (walkS V cs f s a).2 w' := by
  intro f
  induction f with
  | zero => intro s a w hs ha hf; omega
  | succ f ih =>
    intro s a w hs ha hf
    obtain ⟨p, cap, rfl, hm, hR⟩ := (hJ s w hs).form
    by_cases hlt : a < cs.length
    · obtain ⟨bp, op, rfl, _, hcs⟩ := hR (by omega)
      have hci := (hcs a hlt).2
      have HB := Lib.hid (walkS_in V cs f s a hlt)
      have hge : ¬ (cs.length : Int) ≤ (a : Int) := by omega
      have hv0 := hV s w a 0 ((a : Int) + 1) hlt hs (Nat.zero_le _) (by omega) (by omega)
      obtain ⟨b, s1, hb⟩ : ∃ b s1, V s a 0 ((a : Int) + 1) = (b, s1) := ⟨_, _, rfl⟩
      rw [hb] at hv0
      have HW := Lib.hid hb
      clear hb hR hcs
      cases b
      · go_enter Tryz.func80, Tryz.ntmps80
        go_wp2_with (go_at_fn g; refine hv0.mono ?_; rintro e w1 ⟨rfl, hj1⟩)
        go_ret
        rw [HB.out, HW.out]
        exact ⟨rfl, hj1⟩
      · have HF := Lib.hid (show walkS V cs (f + 1) s a = iterS (walkS V cs f) (fun s d n => V s a d n) cs[a].toNat 0 ((a : Int) + 1) s1 from by rw [HB.out, HW.out]; rfl)
        have hrd : ∀ W, J s1 W → W.cell? ⟨bp, op + a, none⟩ = some (.int .i64 cs[a]) := by
          intro W hj
          obtain ⟨p', cap', e1, _, h2⟩ := (hJ s1 W hj).form
          cases e1
          obtain ⟨b, o, e2, _, h3⟩ := h2 (by omega)
          cases e2
          have := (h3 a hlt).1
          rw [Nat.mul_one] at this
          exact this
        have HV := Lib.hid fun s W d n hj hd h0 h1 => hV s W a d n hlt hj hd h0 h1
        clear HB HW
        generalize cs[a] = c at *
        obtain ⟨hc1, hc2⟩ := hci
        go_enter Tryz.func80, Tryz.ntmps80
        go_wp2_with (go_at_fn g; refine hv0.mono ?_; rintro e w1 ⟨rfl, hj1⟩; have hcell := hrd w1 hj1)
        go_loopw [7, 26] (fun nx i wr => ∃ (k m : Nat) (s' : σ), i = .int .i64 k ∧ nx = .int .i64 m ∧ k ≤ c.toNat ∧ a < m ∧ m ≤ cs.length ∧ J s' wr ∧ iterS (walkS V cs f) (fun s d n => V s a d n) (c.toNat - k) k m s' = iterS (walkS V cs f) (fun s d n => V s a d n) c.toNat 0 ((a : Int) + 1) s1) (fun _ i _ => c.toNat - (intOf i).toNat)
        case atStart => exact ⟨0, a + 1, s1, rfl, by go_num, Nat.zero_le _, by omega, by omega, hj1, by simp⟩
        case round =>
          obtain ⟨k, m, s', rfl, rfl, hk, ham, hml, hj, hit⟩ := hrel
          have HI := Lib.hid hit
          clear hit hcell hrd hv0
          by_cases hlt2 : (k : Int) < c
          · have hg := walkS_gt V cs f s' (m : Int) (by omega)
            have ihc := ih s' m wr hj hml (by omega)
            obtain ⟨r, s2, hr⟩ : ∃ r s2, walkS V cs f s' (m : Int) = (r, s2) := ⟨_, _, rfl⟩
            rw [hr] at ihc hg
            simp only at ihc hg
            obtain ⟨t, ht⟩ : ∃ t, c.toNat - k = t + 1 := ⟨c.toNat - k - 1, by omega⟩
            rw [ht] at HI
            have hkc : k + 1 ≤ c.toNat := by omega
            by_cases hneg : r < 0
            · have HN := Lib.hid (iterS_neg (V := fun s d n => V s a d n) (t := t) (d := k) hr hneg)
              have HR := Lib.hid hr
              clear hr
              go_wp2_with (go_at_call 80; refine ihc.mono ?_; rintro e w2 ⟨rfl, hj2⟩)
              go_ret
              rw [HF.out, ← HI.out, HN.out]
              exact ⟨rfl, hj2⟩
            · obtain ⟨n, rfl⟩ : ∃ n : Nat, r = n := ⟨r.toNat, by omega⟩
              have hv1 := fun W hj' => Lib.hid (HV.out s2 W (k + 1) (n : Int) hj' hkc (by omega) (by omega))
              obtain ⟨b, s3, hb⟩ : ∃ b s3, V s2 a (k + 1) (n : Int) = (b, s3) := ⟨_, _, rfl⟩
              rw [hb] at hv1
              have hnd : decide ((n : Int) < 0) = false := by simp
              cases b
              · have HN := Lib.hid (iterS_no (V := fun s d n => V s a d n) (t := t) (d := k) hr hneg hb)
                have HR := Lib.hid hr
                clear hr hb
                go_wp2_with (first
                  | (go_at_call 80; refine ihc.mono ?_; rintro e w2 ⟨rfl, hj2⟩; have hv2 := (hv1 w2 hj2).out)
                  | (go_at_fn g; refine hv2.mono ?_; rintro e w3 ⟨rfl, hj3⟩))
                go_ret
                rw [HF.out, ← HI.out, HN.out]
                exact ⟨rfl, hj3⟩
              · have HN := Lib.hid (iterS_yes (V := fun s d n => V s a d n) (t := t) (d := k) hr hneg hb)
                have HR := Lib.hid hr
                clear hr hb
                go_wp2_with (first
                  | (go_at_call 80; refine ihc.mono ?_; rintro e w2 ⟨rfl, hj2⟩; have hv2 := (hv1 w2 hj2).out)
                  | (go_at_fn g; refine hv2.mono ?_; rintro e w3 ⟨rfl, hj3⟩))
                go_roundw
                case rel => exact ⟨k + 1, n, s3, by go_num, rfl, by omega, by omega, by omega, hj3, by rw [← HI.out, HN.out, show c.toNat - (k + 1) = t from by omega]⟩
                case measure => simp [intOf]; omega
          · go_wp2
            go_ret
            rw [HF.out, ← HI.out, show c.toNat - k = 0 from by omega]
            exact ⟨rfl, hj⟩
    · have HB := Lib.hid (walkS_out V cs (f + 1) s a (by omega))
      have hge : (cs.length : Int) ≤ (a : Int) := by omega
      clear hR
      go_enter Tryz.func80, Tryz.ntmps80
      go_wp2
      go_ret
      rw [HB.out]
      exact ⟨rfl, hs⟩
end Go.Proofs.YtaibgnfjjbncpaaGreat
namespace Go.Proofs.YtaibgnfjjbncpaaGreat
set_option linter.unusedVariables false
open Go.RowKit

theorem own_app {B B0 e n : Nat} {w wr w1 : World} {v : Value} {xs : List Value} {C : Array Value} {T : TypeId} (hown : wr.ownsRow B e 1 v n xs) (hbel : Below B0 w wr) (h0 : B0 ≤ B) (hBs : B ≤ wr.heap.size)
    (hgrow : (wr.alloc (.cells C T)).grownBy w1 v.ownBlock) : Below B0 w w1 ∧ B ≤ w1.heap.size := by
  have hb2 : Below B0 w (wr.alloc (.cells C T)) := hbel.alloc (by omega) _
  refine ⟨hb2.grown hgrow (by simp; omega) (fun k hk => by have := (hown.lt k hk).1; omega), ?_⟩
  have := hgrow.size; simp at this; omega
theorem own_app0 {B B0 e n : Nat} {w wr w1 : World} {v : Value} {xs : List Value} (hown : wr.ownsRow B e 1 v n xs) (hbel : Below B0 w wr) (h0 : B0 ≤ B) (hBs : B ≤ wr.heap.size)
    (hgrow : wr.grownBy w1 v.ownBlock) : Below B0 w w1 ∧ B ≤ w1.heap.size := by
  refine ⟨hbel.grown hgrow (by omega) (fun k hk => by have := (hown.lt k hk).1; omega), ?_⟩
  have := hgrow.size; omega
theorem new_cells (w : World) (C : Array Value) (T : TypeId) (news : List Value) (h : C.toList = news) : ∀ j u, news[j]? = some u → (w.alloc (.cells C T)).cell? ((⟨w.heap.size, 0, none⟩ : Addr).add j) = some u := by
  intro j u hj
  subst h
  have hp : (⟨w.heap.size, 0, none⟩ : Addr).add j = ⟨w.heap.size, j, none⟩ := by unfold Addr.add; split <;> simp_all
  rw [hp, World.cell?_alloc_new]
  simpa using hj
/-- Cells of bytes. -/
def bc (l : List UInt8) : List Value := l.map fun b => Value.int .u8 (b.toNat : Int)
theorem bc_length (l : List UInt8) : (bc l).length = l.length := by simp [bc]
theorem bc_app (l m : List UInt8) : bc (l ++ m) = bc l ++ bc m := by simp [bc]
theorem bc_one (l : List UInt8) : ∀ u ∈ bc l, u.oneCell' = true := by
  intro u hu; simp only [bc, List.mem_map] at hu; obtain ⟨b, _, rfl⟩ := hu; rfl
/-- The row behind an append of bytes. -/
theorem own_bytes {B e m : Nat} {w1 : World} {v' : Value} {l l' : List UInt8} {n : Nat} {xs news : List Value} (hn : n = l.length) (hxs : xs = bc l) (hnews : news = bc l') (hm : m = l'.length) (hown' : w1.ownsRow B e 1 v' (n + m) (xs ++ news)) :
    w1.ownsRow B e 1 v' (l ++ l').length (bc (l ++ l')) := by
  subst hn hxs hnews hm; rw [bc_app, List.length_append]; exact hown'
/-- What is owned and holds something is a slice at the head of a block, whose cells are there. -/
theorem own_shape {B e n : Nat} {w : World} {v : Value} {xs : List Value} (h : w.ownsRow B e 1 v n xs) (hn : 0 < n) :
    ∃ g cap, v = .slice (some ⟨g, 0, none⟩) n cap ∧ B ≤ g ∧ g < w.heap.size ∧ n ≤ cap ∧ (∀ j, j < n → w.cell? ⟨g, j, none⟩ = xs[j]?) ∧ (∀ j, w.frozen? ⟨g, j, none⟩ = false) := by
  have h' := h
  obtain ⟨_, ⟨_, h0⟩ | ⟨g, cap, cur, rfl, h1, h2, h3, h4, h5, h6⟩⟩ := h
  · omega
  · exact ⟨g, cap, rfl, h1, by have := (h'.lt g rfl).2; exact this, h3, fun j hj => h'.cellAt j (by omega), fun j => h'.frozenAt j⟩
theorem add_zero_off (g j : Nat) : (⟨g, 0, none⟩ : Addr).add j = ⟨g, j, none⟩ := by unfold Addr.add; split <;> simp_all
theorem bc_get (l : List UInt8) (j : Nat) (hj : j < l.length) : (bc l)[j]? = some (.int .u8 (l[j].toNat : Int)) := by simp [bc, hj]
/-- What is owned stays owned where nothing below the heap's size has turned. -/
theorem own_below {B e n : Nat} {wr w1 : World} {v : Value} {xs : List Value} (h : wr.ownsRow B e 1 v n xs) (hb : Below wr.heap.size wr w1) : w1.ownsRow B e 1 v n xs := by
  obtain ⟨h0, h1 | ⟨g, cap, cur, rfl, h1, h2, h3, h4, h5, h6⟩⟩ := h
  · exact ⟨h0, .inl h1⟩
  · refine ⟨h0, .inr ⟨g, cap, cur, rfl, h1, ?_, h3, h4, h5, h6⟩⟩
    rw [hb.block g (by have := (Array.getElem?_eq_some_iff.1 h2).1; exact this)]; exact h2
/-- Cells of strings. -/
def sc (l : List ByteArray) : List Value := l.map Value.string
theorem sc_length (l : List ByteArray) : (sc l).length = l.length := by simp [sc]
theorem sc_one (l : List ByteArray) : ∀ u ∈ sc l, u.oneCell' = true := by
  intro u hu; simp only [sc, List.mem_map] at hu; obtain ⟨b, _, rfl⟩ := hu; rfl
theorem own_strs {B e m : Nat} {w1 : World} {v' : Value} {l l' : List ByteArray} {n : Nat} {xs news : List Value} (hn : n = l.length) (hxs : xs = sc l) (hnews : news = sc l') (hm : m = l'.length) (hown' : w1.ownsRow B e 1 v' (n + m) (xs ++ news)) :
    w1.ownsRow B e 1 v' (l ++ l').length (sc (l ++ l')) := by
  subst hn hxs hnews hm
  have : sc (l ++ l') = sc l ++ sc l' := by simp [sc]
  rw [this, List.length_append]; exact hown'
end Go.Proofs.YtaibgnfjjbncpaaGreat
namespace Go.Proofs.YtaibgnfjjbncpaaGreat
set_option linter.unusedVariables false
open Go.ChangeShapes Go.WideShapes Go.ChangeAt Go.RowKit

/-- Cells of numbers. -/
def ic (l : List Int) : List Value := l.map (Value.int .i64)
theorem ic_length (l : List Int) : (ic l).length = l.length := by simp [ic]
theorem ic_app (l m : List Int) : ic (l ++ m) = ic l ++ ic m := by simp [ic]
theorem ic_one (l : List Int) : ∀ u ∈ ic l, u.oneCell' = true := by
  intro u hu; simp only [ic, List.mem_map] at hu; obtain ⟨b, _, rfl⟩ := hu; rfl
theorem ic_get (l : List Int) (j : Nat) (h : j < l.length) : (ic l)[j]? = some (.int .i64 l[j]) := by simp [ic, h]
/-- What is owned and flat: its element's cells tell its elements. -/
theorem own_flat {α : Type} {B e n : Nat} {R : ElRd α} {w : World} {v : Value} {l : List α} {xs : List Value} (hn : 0 < n) (h : w.ownsRow B e n v l.length xs)
    (hR : ∀ g i (hi : i < l.length), (∀ j, j < n → w.cell? ⟨g, i * n + j, none⟩ = xs[i * n + j]?) → R w g (i * n) l[i]) :
    ∃ F, RowOwn n (Flat R) w v l F ∧ (∀ g ∈ F, B ≤ g) ∧ F.Nodup := by
  by_cases h0 : 0 < l.length
  · have h' := h
    obtain ⟨hx, ⟨_, h1⟩ | ⟨g, cap, cur, rfl, h1, h2, h3, h4, h5, h6⟩⟩ := h
    · omega
    · refine ⟨[g], .inr ⟨g, cap, List.replicate l.length [], rfl, ⟨Nat.le_trans h3 h4, h3⟩, (h'.lt g rfl).2, fun i => h'.frozenAt i, h0, by simp, ?_, fun i hi hi' => ?_⟩, fun k hk => by simp at hk; subst hk; exact h1, by simp⟩
      · have : (List.replicate l.length ([] : List Nat)).flatten = [] := by simp
        rw [this]
      · rw [List.getElem_replicate]
        refine ⟨rfl, hR g i hi fun j hj => h'.cellAt (i * n + j) ?_⟩
        have := Nat.mul_le_mul_right n (show i + 1 ≤ l.length by omega)
        rw [Nat.succ_mul] at this
        omega
  · obtain rfl : l = [] := List.eq_nil_of_length_eq_zero (by omega)
    obtain ⟨hx, ⟨rfl, _⟩ | ⟨g, cap, cur, rfl, _⟩⟩ := h
    · exact ⟨[], .inl ⟨rfl, rfl, _, _, rfl⟩, fun g hg => by simp at hg, List.nodup_nil⟩
    · exact ⟨[], .inl ⟨rfl, rfl, _, _, rfl⟩, fun g hg => by simp at hg, List.nodup_nil⟩
theorem own_ints {B e : Nat} {w : World} {v : Value} {l : List Int} (h : w.ownsRow B e 1 v l.length (ic l)) (hI : ∀ x ∈ l, I64 x) : ∃ F, RowOwn 1 (Flat IntEl) w v l F ∧ (∀ g ∈ F, B ≤ g) ∧ F.Nodup := by
  refine own_flat (by omega) h fun g i hi hc => ?_
  have := hc 0 (by omega)
  simp only [Nat.mul_one, Nat.add_zero] at this ⊢
  exact ⟨by rw [this]; exact ic_get l i hi, hI _ (List.getElem_mem hi)⟩
theorem own_strs' {B e : Nat} {w : World} {v : Value} {l : List ByteArray} (h : w.ownsRow B e 1 v l.length (sc l)) (hI : ∀ x ∈ l, x.size ≤ maxLen) : ∃ F, RowOwn 1 (Flat StrEl) w v l F ∧ (∀ g ∈ F, B ≤ g) ∧ F.Nodup := by
  refine own_flat (by omega) h fun g i hi hc => ?_
  have := hc 0 (by omega)
  simp only [Nat.mul_one, Nat.add_zero] at this ⊢
  exact ⟨by rw [this]; simp [sc, hi], hI _ (List.getElem_mem hi)⟩
/-- Cells of a type's items. -/
def tyC (l : List TyI) : List Value := l.flatMap fun x => [.int .i64 x.var, .string x.name, .int .i64 x.arity]
theorem flat_get {α : Type} (f : α → List Value) (n : Nat) (hf : ∀ x, (f x).length = n) (l : List α) (i j : Nat) (hi : i < l.length) (hj : j < n) : (l.flatMap f)[i * n + j]? = (f l[i])[j]? := by
  induction l generalizing i with
  | nil => simp at hi
  | cons x l ih =>
    rw [List.flatMap_cons]
    cases i with
    | zero => rw [Nat.zero_mul, Nat.zero_add, List.getElem?_append_left (by rw [hf]; exact hj)]; rfl
    | succ i =>
      rw [List.getElem?_append_right (by rw [hf, Nat.succ_mul]; omega), hf]
      rw [show (i + 1) * n + j - n = i * n + j from by rw [Nat.succ_mul]; omega]
      exact ih i (by simpa using hi)
theorem own_items {B e : Nat} {w : World} {v : Value} {l : List TyI} (h : w.ownsRow B e 3 v l.length (tyC l)) (hI : ∀ x ∈ l, I64 x.var ∧ x.name.size ≤ maxLen ∧ I64 x.arity) : ∃ F, RowOwn 3 TyIOwn w v l F ∧ (∀ g ∈ F, B ≤ g) ∧ F.Nodup := by
  refine own_flat (by omega) h fun g i hi hc => ?_
  have hg := fun j hj => (hc j hj).trans (flat_get (fun x : TyI => [Value.int .i64 x.var, .string x.name, .int .i64 x.arity]) 3 (fun _ => rfl) l i j hi hj)
  obtain ⟨i0, i1, i2⟩ := hI _ (List.getElem_mem hi)
  exact ⟨⟨hg 0 (by omega), i0⟩, ⟨hg 1 (by omega), i1⟩, ⟨hg 2 (by omega), i2⟩⟩
end Go.Proofs.YtaibgnfjjbncpaaGreat
namespace Go.Proofs.YtaibgnfjjbncpaaGreat
set_option linter.unusedVariables false
set_option maxRecDepth 100000
open Go.ChangeShapes Go.WideShapes Go.ChangeAt Go.RowKit

theorem iNameOkB (s : ByteArray) (w : World) (hs : s.size ≤ maxLen) :
    Calls Tryz.prog 75 #[.string s] w fun e w' => e = .returned (.bool (nameB s)) ∧ Below w.heap.size w w' := (iNameOk s w hs).mono fun e w' ⟨h, h'⟩ => ⟨h, by subst h'; exact Below.refl _ _⟩
/-- Numbers that a call made, read. -/
theorem own_rd {B e : Nat} {w : World} {v : Value} {l : List Int} (h : w.ownsRow B e 1 v l.length (ic l)) (hm : l.length ≤ maxLen) (hI : ∀ x ∈ l, I64 x) : RowRd 1 IntEl w v l := by
  by_cases h0 : 0 < l.length
  · obtain ⟨g, cap, rfl, h1, h2, h3, h4, _⟩ := own_shape h h0
    refine .inr ⟨g, 0, cap, rfl, ⟨hm, h3⟩, h2, h0, fun i hi => ?_⟩
    have := h4 i hi
    rw [ic_get l i hi] at this
    rw [Nat.mul_one, Nat.zero_add]
    exact ⟨this, hI _ (List.getElem_mem hi)⟩
  · obtain rfl : l = [] := List.eq_nil_of_length_eq_zero (by omega)
    obtain ⟨hx, ⟨rfl, _⟩ | ⟨g, cap, cur, rfl, _⟩⟩ := h
    · exact .inl ⟨rfl, _, _, rfl⟩
    · exact .inl ⟨rfl, _, _, rfl⟩
theorem iItem (x : TyI) (w : World) (hs : x.name.size ≤ maxLen) :
    Calls Tryz.prog 132 #[.agg #[.int .i64 x.var, .string x.name, .int .i64 x.arity]] w fun e w' => e = .returned (.bool (itemB x)) ∧ Below w.heap.size w w' := by
  by_cases hn : x.name.toList = []
  · have h1 : x.name.toList.isEmpty = true := by simp [hn]
    have HB := Lib.hid (show itemB x = (decide (0 ≤ x.var) && (decide (x.var ≤ 9999) && decide (x.arity = 0))) from by rw [itemB, if_pos hn])
    go_enter Tryz.func132, Tryz.ntmps132
    go_wp2
    all_goals
      go_ret
      refine ⟨ret_bool ?_, Joins.below_alloc1 w _⟩
      rw [HB.out]
      first | (rw [Bool.eq_iff_iff]; simp; omega) | (simp; omega)
  · have h1 : x.name.toList.isEmpty = false := by simpa using hn
    by_cases hv : x.var = 0
    · have hv1 : (x.var == 0) = true := by simpa using hv
      have hv2 : (x.var != 0) = false := by simpa using hv
      by_cases ha : x.name.toList = [45, 62] ∨ x.name.toList = [42]
      · have HB := Lib.hid (show itemB x = decide (x.arity = 2) from by rw [itemB, if_neg hn, if_pos hv, if_pos ha])
        clear hv
        rcases ha with ha | ha
        all_goals
          go_enter Tryz.func132, Tryz.ntmps132
          go_wp2
          all_goals
            go_ret
            refine ⟨ret_bool ?_, Joins.below_alloc1 w _⟩
            rw [HB.out]
            rw [Bool.eq_iff_iff]; simp
      · obtain ⟨ha1, ha2⟩ := not_or.1 ha
        have hb1 : (x.name.toList == [45, 62]) = false := by simpa using ha1
        have hb2 : (x.name.toList == [42]) = false := by simpa using ha2
        by_cases hr : x.name.toList = [114, 101, 102]
        · have HB := Lib.hid (show itemB x = decide (x.arity = 1) from by rw [itemB, if_neg hn, if_pos hv, if_neg ha, if_pos hr])
          clear hv ha
          go_enter Tryz.func132, Tryz.ntmps132
          go_wp2
          go_ret
          refine ⟨ret_bool ?_, Joins.below_alloc1 w _⟩
          rw [HB.out]
          rw [Bool.eq_iff_iff]; simp
        · have hr1 : (x.name.toList == [114, 101, 102]) = false := by simpa using hr
          have HB := Lib.hid (show itemB x = (nameB x.name && (decide (0 ≤ x.arity) && decide (x.arity ≤ 2))) from by rw [itemB, if_neg hn, if_pos hv, if_neg ha, if_neg hr])
          clear hv ha hr
          go_enter Tryz.func132, Tryz.ntmps132
          go_wp2_with fail
          refine (iNameOkB _ _ hs).mono ?_
          rintro e w1 ⟨rfl, hb⟩
          obtain ⟨hc, hf⟩ := bcell hb
          generalize nameB x.name = nb at *
          cases nb
          all_goals
            go_wp2
            all_goals
              go_ret
              refine ⟨ret_bool ?_, below_tr (Joins.below_alloc1 w _) hb⟩
              rw [HB.out]
              first | (simp; done) | (rw [Bool.eq_iff_iff]; simp; omega) | (simp; omega)
    · have hv2 : (x.var != 0) = true := by simpa using hv
      have HB := Lib.hid (show itemB x = false from by rw [itemB, if_neg hn, if_neg hv])
      clear hv
      go_enter Tryz.func132, Tryz.ntmps132
      go_wp2
      go_ret
      exact ⟨ret_bool HB.out.symm, Joins.below_alloc1 w _⟩
theorem iArity (x : TyI) (w : World) :
    Calls Tryz.prog 152 #[.agg #[.int .i64 x.var, .string x.name, .int .i64 x.arity]] w fun e w' => e = .returned (.int .i64 x.arity) ∧ Below w.heap.size w w' := by
  go_enter Tryz.func152, Tryz.ntmps152
  go_wp2
  go_ret
  exact ⟨rfl, Joins.below_alloc1 w _⟩
theorem info_int : (Tryz.prog.info? 3).map (fun i => (i.zero, i.size, i.bytes)) = some (some (.int .i64 0), 1, 8) := by kernel_rfl
theorem e_iArity : ∀ args w, (callFunc 152 args).run Tryz.prog w = .ok (.enter 152 args) w := enters_of Tryz.func152 (by kernel_rfl) rfl
theorem take_map_succ {α β : Type} (f : α → β) (l : List α) (k : Nat) (h : k < l.length) : (l.take (k + 1)).map f = (l.take k).map f ++ [f l[k]] := by
  rw [List.take_succ_eq_append_getElem h, List.map_append]; rfl
theorem own_i {B e m n : Nat} {w1 : World} {v' : Value} {l l' : List Int} {xs news : List Value} (hn : n = l.length) (hxs : xs = ic l) (hnews : news = ic l') (hm : m = l'.length) (h : w1.ownsRow B e 1 v' (n + m) (xs ++ news)) :
    w1.ownsRow B e 1 v' (l ++ l').length (ic (l ++ l')) := by
  subst hn hxs hnews hm; rw [ic_app, List.length_append]; exact h
theorem iMapTy (l : List TyI) (v : Value) (w : World) (hR : RowRd 3 TyIEl w v l) (hl : l.length ≤ 1048576) :
    Calls Tryz.prog 151 #[v, .func (.func 152) #[] #[]] w fun e w' => ∃ v', e = .returned v' ∧ RowRd 1 IntEl w' v' (l.map TyI.arity) ∧ Below w.heap.size w w' := by
  obtain ⟨p, cap, rfl, hm, hR⟩ := hR.form
  unfold maxLen at hm
  obtain ⟨i0, hi, hz0, hz1, hz2⟩ := info_parts info_int
  obtain ⟨w0, hmk, hown0, hgr0⟩ := run_make_own (P := Tryz.prog) w w.heap.size 46 3 i0 (.int .i64 0) 1 Tryz.underlying46 hi hz0 hz1 .i64 .i64 l.length (by rw [hz2]; omega) (by unfold maxLen; omega) (Nat.le_refl _)
  have hb0 : Below w.heap.size w w0 := (Below.refl _ _).grown hgr0 (Nat.le_refl _) (fun k hk => by simp at hk)
  have hI : ∀ x ∈ l.map TyI.arity, I64 x := by
    intro x hx
    obtain ⟨y, hy, rfl⟩ := List.mem_map.1 hx
    obtain ⟨i, hil, rfl⟩ := List.getElem_of_mem hy
    obtain ⟨b, o, _, _, h⟩ := hR (by omega)
    exact (h i hil).2.2.2
  go_enter Tryz.func151, Tryz.ntmps151
  go_wp2
  go_loopw [5, 13] (fun nx i wr => ∃ k : Nat, i = .int .i64 k ∧ k ≤ l.length ∧ wr.ownsRow w.heap.size 3 1 nx ((l.take k).map TyI.arity).length (ic ((l.take k).map TyI.arity)) ∧ Below w.heap.size w wr ∧ w.heap.size ≤ wr.heap.size) (fun _ i _ => l.length - (intOf i).toNat)
  case atStart => exact ⟨0, rfl, Nat.zero_le _, hown0, hb0, hb0.size⟩
  case round =>
    obtain ⟨k, rfl, hk, hown, hbel, hsz⟩ := hrel
    have hlen : ((l.take k).map TyI.arity).length = k := by simp; omega
    by_cases hlt : k < l.length
    · obtain ⟨b, o, rfl, hbw, hc⟩ := hR (by omega)
      have ex := TyIEl.st w wr b _ _ (Kept.of_below hbel) hbw (hc k hlt)
      have HT := Lib.hid (take_map_succ TyI.arity l k hlt)
      clear hc hR hmk hown0 hgr0 hb0
      generalize l[k] = x at *
      obtain ⟨⟨e0, i0'⟩, ⟨e1, i1⟩, ⟨e2, i2⟩⟩ := ex
      have hag := iArity x (wr.alloc (.cells #[.int .i64 x.var, .string x.name, .int .i64 x.arity] 94))
      go_wp2_with (first
        | (go_at_call 152; refine hag.mono ?_; rintro e w1 ⟨rfl, hb⟩; have hb1 := below_tr (Joins.below_alloc1 wr _) hb; have hown1 := own_below hown hb1; have hbel1 := below_tr hbel hb1; have hsz1 := Nat.le_trans hsz hb1.size)
        | (at_builtin; refine wpList_append_own _ rfl (.tmp 17) (.tmp 21) 46 rfl w.heap.size 3 i0 (.int .i64 0) 1 8 Tryz.underlying46 hi hz0 hz1 hz2 rfl (by decide) _ ((l.take k).map TyI.arity).length (ic ((l.take k).map TyI.arity)) rfl (hown1.alloc _) ⟨w1.heap.size, 0, none⟩ 1 1 [.int .i64 x.arity] rfl rfl (new_cells _ _ _ _ rfl) (ic_one [x.arity]) (by unfold maxLen; omega) (by omega) (by simp; omega) ?_; intro v' w2 hown' hgrow _))
      have R := own_app hown1 hbel1 (Nat.le_refl _) hsz1 hgrow
      have O := own_i rfl rfl (l' := [x.arity]) rfl rfl hown'
      clear hown hown1 hown' hgrow hbel hbel1
      go_roundw
      case rel => exact ⟨k + 1, by go_num, by omega, by rw [HT.out]; exact O, R.1, R.2⟩
      case measure => simp [intOf]; omega
    · obtain rfl : k = l.length := by omega
      rw [List.take_length] at hown
      clear hR hmk hown0 hgr0 hb0
      go_wp2
      go_ret
      exact ⟨_, rfl, own_rd hown (by simp; unfold maxLen; omega) hI, hbel⟩
theorem iArities (l : List TyI) (v : Value) (w : World) (hR : RowRd 3 TyIEl w v l) (hl : l.length ≤ 1048576) :
    Calls Tryz.prog 133 #[.agg #[v]] w fun e w' => ∃ v', e = .returned v' ∧ RowRd 1 IntEl w' v' (l.map TyI.arity) ∧ Below w.heap.size w w' := by
  have hM := iMapTy l v (w.alloc (.cells #[v] 64)) (hR.kept TyIEl.st (Kept.alloc _ _)) hl
  obtain ⟨p, cap, rfl, hm, _⟩ := hR.form
  go_enter Tryz.func133, Tryz.ntmps133
  go_wp2_with (go_at_call 151; refine hM.mono ?_; rintro e w1 ⟨v', rfl, hv', hb⟩)
  go_ret
  exact ⟨_, rfl, hv', below_tr (Joins.below_alloc1 w _) hb⟩
end Go.Proofs.YtaibgnfjjbncpaaGreat
namespace Go.Proofs.YtaibgnfjjbncpaaGreat
set_option linter.unusedVariables false
set_option maxRecDepth 100000
open Go.ChangeShapes Go.WideShapes Go.ChangeAt Go.RowKit

theorem iRightTy (l : List TyI) (vt : Value) (bt a d : Nat) (n : Int) (w : World) (hc : w.cell? ⟨bt, 0, none⟩ = some vt) (hR : RowRd 3 TyIEl w vt l) (ha : a < l.length) (hd : d ≤ 9223372036854775807) :
    Calls Tryz.prog 131 #[.int .i64 a, .int .i64 d, .int .i64 n, .pointer (some ⟨bt, 0, none⟩)] w fun e w' => e = .returned (.bool (vTy l () a d n).1) ∧ Below w.heap.size w w' := by
  obtain ⟨p, cap, rfl, hm, hR⟩ := hR.form
  unfold maxLen at hm
  by_cases h0 : d = 0
  · subst h0
    have HB := Lib.hid (show (vTy l () a 0 n).1 = itemB l[a] from by simp [vTy, List.getElem?_eq_getElem ha])
    obtain ⟨b, o, rfl, hbw, hcs⟩ := hR (by omega)
    obtain ⟨⟨e0, i0⟩, ⟨e1, i1⟩, ⟨e2, i2⟩⟩ := hcs a ha
    clear hcs hR
    generalize l[a] = x at *
    have hI := iItem x w i1
    go_enter Tryz.func131, Tryz.ntmps131
    go_wp2_with (go_at_call 132; refine hI.mono ?_; rintro e w1 ⟨rfl, hb⟩)
    go_ret
    exact ⟨ret_bool HB.out.symm, hb⟩
  · have HB := Lib.hid (show (vTy l () a d n).1 = true from by simp [vTy]; left; omega)
    have hd1 : (0 : Int) < (d : Int) := by omega
    clear hR
    go_enter Tryz.func131, Tryz.ntmps131
    go_wp2
    go_ret
    exact ⟨ret_bool HB.out.symm, Below.refl _ _⟩
theorem e_iRightTy : ∀ args w, (callFunc 131 args).run Tryz.prog w = .ok (.enter 131 args) w := enters_of Tryz.func131 (by kernel_rfl) rfl
theorem iWalkTy (l : List TyI) (v vt : Value) (bt : Nat) (w : World) (hc : w.cell? ⟨bt, 0, none⟩ = some vt) (hbt : bt < w.heap.size) (hR : RowRd 3 TyIEl w vt l) (hv : RowRd 1 IntEl w v (l.map TyI.arity)) (hl : l.length ≤ 1048576) :
    Calls Tryz.prog 80 #[v, .int .i64 0, .func (.func 131) #[] #[.pointer (some ⟨bt, 0, none⟩)]] w fun e w' => e = .returned (.int .i64 (walkS (vTy l) (l.map TyI.arity) (l.length + 1) () 0).1) ∧ Below w.heap.size w w' := by
  refine iWalk (vTy l) (fun _ W => Below w.heap.size w W) 131 #[.pointer (some ⟨bt, 0, none⟩)] e_iRightTy (l.map TyI.arity) v (by simpa using hl) (fun _ W hW => hv.kept IntEl.st (Kept.of_below hW)) ?_ (l.length + 1) () 0 w (Below.refl _ _) (Nat.zero_le _) (by simp)
  intro s W a d n h hW hd h0 h1
  have hci : ((l.map TyI.arity)[a]).toNat ≤ 9223372036854775807 := by
    obtain ⟨p, cap, _, _, h2⟩ := hv.form
    obtain ⟨b, o, _, _, h3⟩ := h2 (by omega)
    have := (h3 a h).2.2
    omega
  exact (iRightTy l vt bt a d n W ((hW.cell (p := ⟨bt, 0, none⟩) hbt).trans hc) (hR.kept TyIEl.st (Kept.of_below hW)) (by simpa using h) (Nat.le_trans hd hci)).mono fun e w' ⟨h1, h2⟩ => ⟨h1, below_tr hW h2⟩
theorem iTyOk (l : List TyI) (v : Value) (w : World) (hR : RowRd 3 TyIEl w v l) :
    Calls Tryz.prog 107 #[.agg #[v]] w fun e w' => e = .returned (.bool (tyOkB l)) ∧ Below w.heap.size w w' := by
  have hR0 := hR
  obtain ⟨p, cap, rfl, hm, hR⟩ := hR.form
  unfold maxLen at hm
  by_cases h0 : 200 < (l.length : Int)
  · have HB := Lib.hid (show tyOkB l = false from by simp [tyOkB]; omega)
    clear hR
    go_enter Tryz.func107, Tryz.ntmps107
    go_wp2
    go_ret
    exact ⟨ret_bool HB.out.symm, Joins.below_alloc1 w _⟩
  · have hlb : decide (200 < (l.length : Int)) = false := by simp; omega
    have HB := Lib.hid (ty_ok l (by omega))
    clear hR
    have HA := fun W (hK : Kept w W) => Lib.hid (iArities l _ W (hR0.kept TyIEl.st hK) (by omega))
    have HW := fun v' W (hK : Kept w W) (hc : W.cell? ⟨w.heap.size, 0, none⟩ = some (.slice p l.length cap)) (hlt : w.heap.size < W.heap.size) (hv : RowRd 1 IntEl W v' (l.map TyI.arity)) => Lib.hid (iWalkTy l v' _ w.heap.size W hc hlt (hR0.kept TyIEl.st hK) hv (by omega))
    generalize (walkS (vTy l) (l.map TyI.arity) (l.length + 1) () 0).1 = r at *
    have c0 : (w.alloc (.cells #[.slice p l.length cap] 64)).cell? ⟨w.heap.size, 0, none⟩ = some (.slice p l.length cap) := by simp
    have K0 : Kept w (w.alloc (.cells #[.slice p l.length cap] 64)) := Kept.alloc _ _
    have B0 : Below w.heap.size w (w.alloc (.cells #[.slice p l.length cap] 64)) := Joins.below_alloc1 w _
    have z0 : w.heap.size < (w.alloc (.cells #[.slice p l.length cap] 64)).heap.size := by simp
    go_enter Tryz.func107, Tryz.ntmps107
    go_wp2_with fail
    clear hR hR0
    generalize w.alloc (.cells #[.slice p l.length cap] 64) = wb at *
    go_region_held3 (fun w' => w'.cell? ⟨w.heap.size, 0, none⟩ = some (.slice p l.length cap) ∧ Kept wb w')
      (first | exact ⟨c0, Kept.refl _⟩ | exact ⟨c0, Kept.drew _⟩ | exact ⟨(hb1.cell (p := ⟨w.heap.size, 0, none⟩) z0).trans c0, (Kept.drew _).trans (Kept.of_below hb1)⟩ | exact ⟨(hb2.cell (p := ⟨w.heap.size, 0, none⟩) (Nat.lt_of_lt_of_le z0 hb1.size)).trans ((hb1.cell (p := ⟨w.heap.size, 0, none⟩) z0).trans c0), ((Kept.drew _).trans (Kept.of_below hb1)).trans (Kept.of_below hb2)⟩)
      (first | (go_at_call 133; refine (HA _ (K0.trans (by first | exact Kept.drew _ | exact Kept.refl _))).out.mono ?_; rintro e w1 ⟨v1, rfl, hv1, hb1⟩) | (go_at_call 80; refine (HW v1 _ ((K0.trans (Kept.drew _)).trans (Kept.of_below hb1)) ((hb1.cell (p := ⟨w.heap.size, 0, none⟩) z0).trans c0) (Nat.lt_of_lt_of_le z0 hb1.size) hv1).out.mono ?_; rintro e w2 ⟨rfl, hb2⟩))
    go_wp2
    go_ret
    refine ⟨ret_bool ?_, B0.trans ((Below.refl _ _).drew.trans (hb1.trans (hb2.mono hb1.size)) |>.mono B0.size)⟩
    rw [HB.out, Bool.eq_iff_iff]; simp
theorem iTyOkC (l : List TyI) (v : Value) (w : World) (hR : RowRd 3 TyIEl w v l) (hz : bTy l ≤ 1048576) :
    Calls Tryz.prog 107 #[.agg #[v]] w fun e w' => e = .returned (.bool (tyOkB l)) ∧ Below w.heap.size w w' := iTyOk l v w hR
end Go.Proofs.YtaibgnfjjbncpaaGreat
namespace Go.Proofs.YtaibgnfjjbncpaaGreat
set_option linter.unusedVariables false
set_option maxRecDepth 100000
open Go.ChangeShapes Go.WideShapes Go.ChangeAt Go.RowKit Go.Maps Go.WideMaps

theorem any_yes {α : Type} (ok : α → Bool) (l : List α) (k : Nat) (h : k < l.length) (hx : ok l[k] = true) : l.any ok = true := List.any_eq_true.2 ⟨_, List.getElem_mem h, hx⟩
theorem any_snoc {α : Type} (ok : α → Bool) (l : List α) (k : Nat) (h : k < l.length) (ha : (l.take k).any ok = false) (hx : ok l[k] = false) : (l.take (k + 1)).any ok = false := by
  rw [List.take_succ_eq_append_getElem h, List.any_append, ha]
  simp [hx]
theorem all_any {α : Type} (ok : α → Bool) (l : List α) : l.all ok = !(l.any fun x => !ok x) := by
  induction l with
  | nil => rfl
  | cons x l ih => simp only [List.all_cons, List.any_cons, ih]; cases ok x <;> simp
theorem vPre_end (l : List (List Int)) (a : Nat) (h : a < l.length) (n : Int) : (vPre l () a l[a].length n).1 = true := by
  simp [vPre, List.getElem?_eq_getElem h]
theorem vPre_at (l : List (List Int)) (a d : Nat) (h : a < l.length) (hd : d < l[a].length) (n : Int) : (vPre l () a d n).1 = decide (l[a][d] = n) := by
  have h1 : ¬ d = l[a].length := by omega
  simp [vPre, List.getElem?_eq_getElem h, List.getElem?_eq_getElem hd, h1]
/-- A name that one of the nodes binds. -/
def seenB (l : List PN) (s : ByteArray) : Bool := l.any fun x => decide (x.kind = 2) && decide (x.s = s)
theorem seen_snoc (q : List PN) (k : Nat) (h : k < q.length) (s : ByteArray) : seenB (q.take (k + 1)) s = (seenB (q.take k) s || (decide (q[k].kind = 2) && decide (q[k].s = s))) := by
  unfold seenB
  rw [List.take_succ_eq_append_getElem h, List.any_append]
  simp
theorem twice_yes (q : List PN) (k : Nat) (h : k < q.length) (hk : q[k].kind = 2) (hs : seenB (q.take k) q[k].s = true) : TwiceP q := by
  unfold seenB at hs
  obtain ⟨x, hx, h2⟩ := List.any_eq_true.1 hs
  obtain ⟨i, hi, rfl⟩ := List.getElem_of_mem hx
  simp only [List.length_take] at hi
  simp only [List.getElem_take, Bool.and_eq_true, decide_eq_true_eq] at h2
  exact ⟨k, i, h, by omega, hk, h2.1, h2.2⟩
def onceP (q : List PN) (k : Nat) : Prop := ∀ i j, ∀ (hi : i < q.length) (hj : j < i), i < k → ¬ clash q[i] q[j]
theorem once_step (q : List PN) (k : Nat) (h : k < q.length) (ho : onceP q k) (hx : ¬ (q[k].kind = 2 ∧ seenB (q.take k) q[k].s = true)) : onceP q (k + 1) := by
  intro i j hi hj hik hc
  by_cases h1 : i < k
  · exact ho i j hi hj h1 hc
  · obtain rfl : i = k := by omega
    apply hx
    refine ⟨hc.1, List.any_eq_true.2 ⟨q[j], ?_, ?_⟩⟩
    · rw [List.mem_iff_getElem]
      exact ⟨j, by simp; omega, by simp⟩
    · simp [hc.2.1, hc.2.2]
theorem once_end (q : List PN) (ho : onceP q q.length) : ¬ TwiceP q := by
  rintro ⟨i, k, hi, hk, hc⟩
  exact ho i k hi hk hi hc
/-! ### A set of names, as a map -/
theorem plain_bool_inv {H : Type} {P : Program} {e : TypeId} (he : P.underlying e = some .bool) {v : Value} {z : DataW H × List MemPlace} (h : plainElem P e v = some z) : ∃ a, v = .bool a ∧ z = (.lit (.bool a), []) := by
  unfold plainElem at h
  rw [he] at h
  cases v <;> simp at h
  exact ⟨_, rfl, h.symm⟩
theorem look_bool {H : Type} {P : Program} {k t e : TypeId} {w : World} {b n : Nat} {D : DataW H} (h : w.ownsMap P k (plainElem P e) b n D) (K : Keyed P k) (ht : P.underlying t = some (.map k e)) (he : P.underlying e = some .bool) (hz : (zeroValue e).run P w = .ok (.bool false) w)
    {key : Value} {kl : Lit} (hkey : keyOf P k key = some kl) : ∃ c, (Instr.lookup t (.map (some b)) key false).run P w = .ok (.bool c) w ∧ D.atKey kl (.lit (.bool false)) = .lit (.bool c) := by
  obtain ⟨v, ps, hrun, hv⟩ := h.lookup K ht hz (plainElem_bool he false) hkey
  obtain ⟨c, rfl, hc⟩ := plain_bool_inv he hv
  simp only [Prod.mk.injEq] at hc
  exact ⟨c, hrun, hc.1⟩
/-- The map's datum holds the names that the first k nodes bind. -/
def namesD (q : List PN) (k : Nat) (D : DataW Unit) : Prop := ∀ s : ByteArray, D.atKey (.string s.data.toList) (.lit (.bool false)) = .lit (.bool (seenB (q.take k) s))
theorem names_zero (q : List PN) : namesD q 0 (.map []) := fun s => rfl
theorem names_skip {q : List PN} {k : Nat} {D : DataW Unit} (h : namesD q k D) (hk : k < q.length) (h2 : ¬ q[k].kind = 2) : namesD q (k + 1) D := by
  intro s
  rw [h s, seen_snoc q k hk]
  simp [h2]
theorem names_put {q : List PN} {k : Nat} {D : DataW Unit} (h : namesD q k D) (hD : IsMap D) (hk : k < q.length) (h2 : q[k].kind = 2) : namesD q (k + 1) (D.put (.string q[k].s.data.toList) (.lit (.bool true))) := by
  intro s
  rw [seen_snoc q k hk, h2]
  by_cases hs : q[k].s = s
  · rw [← hs, atKey_put_same hD (by simp [WideAt.IsKeyLit])]
    simp
  · rw [atKey_put_other, h s]
    · simp [hs]
    · intro e
      apply hs
      simp only [Lit.string.injEq] at e
      cases hq : q[k].s
      cases s
      rw [hq] at e
      simp at e
      rw [e]
theorem zero_bool (w : World) : (zeroValue 4).run Tryz.prog w = .ok (.bool false) w := by kernel_rfl
theorem key_str {s : ByteArray} (hs : s.size ≤ maxLen) : keyOf Tryz.prog 9 (.string s) = some (.string s.data.toList) := keyOf_string_mk Tryz.underlying9 hs
end Go.Proofs.YtaibgnfjjbncpaaGreat
namespace Go.Proofs.YtaibgnfjjbncpaaGreat
set_option linter.unusedVariables false
set_option maxRecDepth 100000
open Go.ChangeShapes Go.WideShapes Go.ChangeAt Go.RowKit

/-- A PNode that is handed over. -/
def PNVal (w : World) (v : Value) (x : PN) : Prop := ∃ v3, v = .agg #[.int .i64 x.kind, .int .i64 x.n, .string x.s, v3] ∧ I64 x.kind ∧ I64 x.n ∧ x.s.size ≤ maxLen ∧ RowRd 1 IntEl w v3 x.kids
theorem PNVal.kept {w w' : World} {v : Value} {x : PN} (k : Kept w w') : PNVal w v x → PNVal w' v x := fun ⟨v3, h, f0, f1, f2, f3⟩ => ⟨v3, h, f0, f1, f2, f3.kept IntEl.st k⟩
theorem iIndexPN (g : Nat) (lb : Array Value) (eg : ∀ args w, (callFunc g args).run Tryz.prog w = .ok (.enter g args) w) (ok : PN → Bool) (l : List PN) (v : Value) (w : World) (hR : RowRd 4 PNEl w v l)
    (hp : ∀ i (hi : i < l.length) (u : Value) (W : World), Below w.heap.size w W → PNVal W u l[i] → Calls Tryz.prog g (#[u] ++ lb) W fun e w' => e = .returned (.bool (ok l[i])) ∧ Below W.heap.size W w') :
    Calls Tryz.prog 159 #[v, .func (.func g) #[] lb] w fun e w' => ∃ r : Int, e = .returned (.int .i64 r) ∧ decide (0 ≤ r) = l.any ok ∧ Below w.heap.size w w' := by
  obtain ⟨p, cap, rfl, hm, hR⟩ := hR.form
  unfold maxLen at hm
  go_enter Tryz.func159, Tryz.ntmps159
  go_wp2
  go_loopw [8] (fun i wr => ∃ k : Nat, i = .int .i64 k ∧ k ≤ l.length ∧ (l.take k).any ok = false ∧ Below w.heap.size w wr) (fun i _ => l.length - (intOf i).toNat)
  case atStart => exact ⟨0, rfl, Nat.zero_le _, rfl, Below.refl _ _⟩
  case round =>
    obtain ⟨k, rfl, hk, hno, hbel⟩ := hrel
    have HA := Lib.hid hno
    clear hno
    by_cases hlt : k < l.length
    · obtain ⟨b, o, rfl, hbw, hc⟩ := hR (by omega)
      have ex := PNEl.st w wr b _ _ (Kept.of_below hbel) hbw (hc k hlt)
      have hpk := fun u => hp k hlt u wr hbel
      have HY := Lib.hid (fun (h : ok l[k] = true) => any_yes ok l k hlt h)
      have HN := Lib.hid (fun (h : ok l[k] = false) => any_snoc ok l k hlt HA.out h)
      clear hc hR hp
      generalize l[k] = x at *
      obtain ⟨⟨e0, i0⟩, ⟨e1, i1⟩, ⟨e2, i2⟩, ⟨v3, e3, r3⟩⟩ := ex
      have hp1 := hpk _ ⟨v3, rfl, i0, i1, i2, r3⟩
      clear hpk
      generalize hx : ok x = t at *
      cases t
      · have HN2 := Lib.hid (HN.out rfl)
        clear HN HY
        go_wp2_with (go_at_fn g; refine hp1.mono ?_; rintro e w1 ⟨rfl, hb⟩)
        go_roundw
        case rel => exact ⟨k + 1, by go_num, by omega, HN2.out, below_tr hbel hb⟩
        case measure => simp [intOf]; omega
      · have HY2 := Lib.hid (HY.out rfl)
        clear HN HY
        go_wp2_with (go_at_fn g; refine hp1.mono ?_; rintro e w1 ⟨rfl, hb⟩)
        go_ret
        exact ⟨_, rfl, by rw [HY2.out]; simp, below_tr hbel hb⟩
    · obtain rfl : k = l.length := by omega
      rw [List.take_length] at HA
      go_wp2
      go_ret
      exact ⟨_, rfl, by rw [HA.out]; rfl, hbel⟩
theorem iContainsPN (g : Nat) (lb : Array Value) (eg : ∀ args w, (callFunc g args).run Tryz.prog w = .ok (.enter g args) w) (ok : PN → Bool) (l : List PN) (v : Value) (w : World) (hR : RowRd 4 PNEl w v l)
    (hp : ∀ i (hi : i < l.length) (u : Value) (W : World), Below w.heap.size w W → PNVal W u l[i] → Calls Tryz.prog g (#[u] ++ lb) W fun e w' => e = .returned (.bool (ok l[i])) ∧ Below W.heap.size W w') :
    Calls Tryz.prog 149 #[v, .func (.func g) #[] lb] w fun e w' => e = .returned (.bool (l.any ok)) ∧ Below w.heap.size w w' := by
  have hI := iIndexPN g lb eg ok l v w hR hp
  go_enter Tryz.func149, Tryz.ntmps149
  go_wp2_with (go_at_call 159; refine hI.mono ?_; rintro e w1 ⟨r, rfl, hr, hb⟩)
  go_ret
  refine ⟨ret_bool ?_, hb⟩
  rw [← hr]
theorem iNotPN (g : Nat) (lb : Array Value) (eg : ∀ args w, (callFunc g args).run Tryz.prog w = .ok (.enter g args) w) (r : Bool) (x : PN) (u : Value) (bo : Nat) (w : World) (hc : w.cell? ⟨bo, 0, none⟩ = some (.func (.func g) #[] lb)) (hbo : bo < w.heap.size) (hu : PNVal w u x)
    (hp : ∀ W, Below w.heap.size w W → Calls Tryz.prog g (#[u] ++ lb) W fun e w' => e = .returned (.bool r) ∧ Below W.heap.size W w') :
    Calls Tryz.prog 150 #[u, .pointer (some ⟨bo, 0, none⟩)] w fun e w' => e = .returned (.bool (!r)) ∧ Below w.heap.size w w' := by
  obtain ⟨v3, rfl, _, _, _, _⟩ := hu
  have hp1 := hp _ (Joins.below_alloc1 w (.cells #[.int .i64 x.kind, .int .i64 x.n, .string x.s, v3] 115))
  have hne : w.heap.size ≠ bo := by omega
  go_enter Tryz.func150, Tryz.ntmps150
  go_wp2_with (go_at_fn g; refine hp1.mono ?_; rintro e w1 ⟨rfl, hb⟩)
  go_ret
  exact ⟨rfl, below_tr (Joins.below_alloc1 w _) hb⟩
theorem e_iNotPN : ∀ args w, (callFunc 150 args).run Tryz.prog w = .ok (.enter 150 args) w := enters_of Tryz.func150 (by kernel_rfl) rfl
theorem iEveryPN (g : Nat) (lb : Array Value) (eg : ∀ args w, (callFunc g args).run Tryz.prog w = .ok (.enter g args) w) (ok : PN → Bool) (l : List PN) (v : Value) (w : World) (hR : RowRd 4 PNEl w v l)
    (hp : ∀ i (hi : i < l.length) (u : Value) (W : World), Below w.heap.size w W → PNVal W u l[i] → Calls Tryz.prog g (#[u] ++ lb) W fun e w' => e = .returned (.bool (ok l[i])) ∧ Below W.heap.size W w') :
    Calls Tryz.prog 128 #[v, .func (.func g) #[] lb] w fun e w' => e = .returned (.bool (l.all ok)) ∧ Below w.heap.size w w' := by
  have hC := fun (T : TypeId) => iContainsPN 150 #[.pointer (some ⟨w.heap.size, 0, none⟩)] e_iNotPN (fun x => !ok x) l v (w.alloc (.cells #[.func (.func g) #[] lb] T)) (hR.kept PNEl.st (Kept.alloc _ _))
    (fun i hi u W hW hu => iNotPN g lb eg (ok l[i]) l[i] u w.heap.size W ((hW.cell (p := ⟨w.heap.size, 0, none⟩) (by simp)).trans (by simp)) (Nat.lt_of_lt_of_le (by simp) hW.size) hu
      fun W' hB => hp i hi u W' (below_tr (Joins.below_alloc1 w _) (below_tr hW hB)) (hu.kept (Kept.of_below hB)))
  go_enter Tryz.func128, Tryz.ntmps128
  go_wp2_with (go_at_call 149; refine (hC _).mono ?_; rintro e w1 ⟨rfl, hb⟩)
  go_ret
  exact ⟨ret_bool (by rw [all_any]), below_tr (Joins.below_alloc1 w _) hb⟩
theorem iMapPN (g : Nat) (lb : Array Value) (eg : ∀ args w, (callFunc g args).run Tryz.prog w = .ok (.enter g args) w) (f : PN → Int) (l : List PN) (v : Value) (w : World) (hR : RowRd 4 PNEl w v l) (hl : l.length ≤ 1048576) (hI : ∀ x ∈ l, I64 (f x))
    (hp : ∀ i (hi : i < l.length) (u : Value) (W : World), Below w.heap.size w W → PNVal W u l[i] → Calls Tryz.prog g (#[u] ++ lb) W fun e w' => e = .returned (.int .i64 (f l[i])) ∧ Below W.heap.size W w') :
    Calls Tryz.prog 146 #[v, .func (.func g) #[] lb] w fun e w' => ∃ v', e = .returned v' ∧ RowRd 1 IntEl w' v' (l.map f) ∧ Below w.heap.size w w' := by
  obtain ⟨p, cap, rfl, hm, hR⟩ := hR.form
  unfold maxLen at hm
  obtain ⟨ii, hi, hz0, hz1, hz2⟩ := info_parts info_int
  obtain ⟨w0, hmk, hown0, hgr0⟩ := run_make_own (P := Tryz.prog) w w.heap.size 46 3 ii (.int .i64 0) 1 Tryz.underlying46 hi hz0 hz1 .i64 .i64 l.length (by rw [hz2]; omega) (by unfold maxLen; omega) (Nat.le_refl _)
  have hb0 : Below w.heap.size w w0 := (Below.refl _ _).grown hgr0 (Nat.le_refl _) (fun k hk => by simp at hk)
  have hI' : ∀ x ∈ l.map f, I64 x := by
    intro x hx
    obtain ⟨y, hy, rfl⟩ := List.mem_map.1 hx
    exact hI y hy
  go_enter Tryz.func146, Tryz.ntmps146
  go_wp2
  go_loopw [5, 13] (fun nx i wr => ∃ k : Nat, i = .int .i64 k ∧ k ≤ l.length ∧ wr.ownsRow w.heap.size 3 1 nx ((l.take k).map f).length (ic ((l.take k).map f)) ∧ Below w.heap.size w wr ∧ w.heap.size ≤ wr.heap.size) (fun _ i _ => l.length - (intOf i).toNat)
  case atStart => exact ⟨0, rfl, Nat.zero_le _, hown0, hb0, hb0.size⟩
  case round =>
    obtain ⟨k, rfl, hk, hown, hbel, hsz⟩ := hrel
    have hlen : ((l.take k).map f).length = k := by simp; omega
    by_cases hlt : k < l.length
    · obtain ⟨b, o, rfl, hbw, hc⟩ := hR (by omega)
      have ex := PNEl.st w wr b _ _ (Kept.of_below hbel) hbw (hc k hlt)
      have HT := Lib.hid (take_map_succ f l k hlt)
      have hpk := hp k hlt
      clear hc hR hmk hown0 hgr0 hb0 hp hI hI'
      generalize l[k] = x at *
      obtain ⟨⟨e0, i0⟩, ⟨e1, i1⟩, ⟨e2, i2⟩, ⟨v3, e3, r3⟩⟩ := ex
      obtain ⟨p3, c3, rfl, m3, -⟩ := r3.form
      have hag := hpk _ (wr.alloc (.cells #[.int .i64 x.kind, .int .i64 x.n, .string x.s, .slice p3 x.kids.length c3] 115)) (below_tr hbel (Joins.below_alloc1 wr _)) (PNVal.kept (Kept.alloc wr _) ⟨_, rfl, i0, i1, i2, r3⟩)
      clear hpk
      generalize f x = fx at *
      go_wp2_with (first
        | (go_at_fn g; refine hag.mono ?_; rintro e w1 ⟨rfl, hb⟩; have hb1 := below_tr (Joins.below_alloc1 wr _) hb; have hown1 := own_below hown hb1; have hbel1 := below_tr hbel hb1; have hsz1 := Nat.le_trans hsz hb1.size)
        | (at_builtin; refine wpList_append_own _ rfl (.tmp 17) (.tmp 21) 46 rfl w.heap.size 3 ii (.int .i64 0) 1 8 Tryz.underlying46 hi hz0 hz1 hz2 rfl (by decide) _ ((l.take k).map f).length (ic ((l.take k).map f)) rfl (hown1.alloc _) ⟨w1.heap.size, 0, none⟩ 1 1 [.int .i64 fx] rfl rfl (new_cells _ _ _ _ rfl) (ic_one [fx]) (by unfold maxLen; omega) (by omega) (by simp; omega) ?_; intro v' w2 hown' hgrow _))
      have R := own_app hown1 hbel1 (Nat.le_refl _) hsz1 hgrow
      have O := own_i rfl rfl (l' := [fx]) rfl rfl hown'
      clear hown hown1 hown' hgrow hbel hbel1
      go_roundw
      case rel => exact ⟨k + 1, by go_num, by omega, by rw [HT.out]; exact O, R.1, R.2⟩
      case measure => simp [intOf]; omega
    · obtain rfl : k = l.length := by omega
      rw [List.take_length] at hown
      clear hR hmk hown0 hgr0 hb0 hp
      go_wp2
      go_ret
      exact ⟨_, rfl, own_rd hown (by simp; unfold maxLen; omega) hI', hbel⟩
end Go.Proofs.YtaibgnfjjbncpaaGreat
