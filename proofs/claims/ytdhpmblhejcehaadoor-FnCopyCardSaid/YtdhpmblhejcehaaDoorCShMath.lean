/- Texts of this proof, merged: OkIMath, PrMath, ShMath. -/
import Derived.Test.YtdhpmblhejcehaaDoorOkMath
import Derived.Test.YtdhpmblhejcehaaDoorHpMath
import Derived.Test.YtdhpmblhejcehaaDoorDigits
import Derived.Test.YtdhpmblhejcehaaDoorQuoteMath
namespace Go.Proofs.YtdhpmblhejcehaaDoor
set_option linter.unusedVariables false
set_option linter.unusedSimpArgs false
/-- The children of a place, one behind another: each walked, then shown to the visitor. -/
def iterS {σ : Type} (g : σ → Int → Int × σ) (V : σ → Nat → Int → Bool × σ) : Nat → Nat → Int → σ → Int × σ
  | 0, _, next, s => (next, s)
  | t + 1, d, next, s =>
    if (g s next).1 < 0 then (-1, (g s next).2)
    else if (V (g s next).2 (d + 1) (g s next).1).1 then iterS g V t (d + 1) (g s next).1 (V (g s next).2 (d + 1) (g s next).1).2
    else (-1, (V (g s next).2 (d + 1) (g s next).1).2)
/-- The walk over a tree in preorder with a visitor that may keep something. -/
def walkS {σ : Type} (V : σ → Nat → Nat → Int → Bool × σ) (cs : List Int) : Nat → σ → Int → Int × σ
  | 0, s, _ => (-1, s)
  | f + 1, s, a => match cs[a.toNat]? with
    | none => (-1, s)
    | some c => if (V s a.toNat 0 (a + 1)).1 then iterS (walkS V cs f) (fun s d n => V s a.toNat d n) c.toNat 0 (a + 1) (V s a.toNat 0 (a + 1)).2 else (-1, (V s a.toNat 0 (a + 1)).2)
theorem walkS_out {σ : Type} (V : σ → Nat → Nat → Int → Bool × σ) (cs : List Int) (f : Nat) (s : σ) (a : Int) (h : (cs.length : Int) ≤ a) : walkS V cs f s a = (-1, s) := by
  cases f with
  | zero => rfl
  | succ f => rw [walkS, List.getElem?_eq_none (by omega)]
theorem walkS_in {σ : Type} (V : σ → Nat → Nat → Int → Bool × σ) (cs : List Int) (f : Nat) (s : σ) (n : Nat) (h : n < cs.length) :
    walkS V cs (f + 1) s (n : Int) = if (V s n 0 ((n : Int) + 1)).1 then iterS (walkS V cs f) (fun s d m => V s n d m) cs[n].toNat 0 ((n : Int) + 1) (V s n 0 ((n : Int) + 1)).2 else (-1, (V s n 0 ((n : Int) + 1)).2) := by
  rw [walkS, Int.toNat_natCast, List.getElem?_eq_getElem h]
/-- It lies beyond its beginning, or there is none. -/
theorem iterS_gt {σ : Type} (g : σ → Int → Int × σ) (V : σ → Nat → Int → Bool × σ) (m : Int) (hg : ∀ s n, 0 ≤ n → (g s n).1 = -1 ∨ (n < (g s n).1 ∧ (g s n).1 ≤ m)) :
    ∀ t d (n : Int) s, 0 ≤ n → n ≤ m → (iterS g V t d n s).1 = -1 ∨ (n ≤ (iterS g V t d n s).1 ∧ (iterS g V t d n s).1 ≤ m) := by
  intro t
  induction t with
  | zero => intro d n s h hm; right; exact ⟨Int.le_refl _, hm⟩
  | succ t ih =>
    intro d n s h hm
    rw [iterS]
    split
    · left; rfl
    · rename_i h0
      rcases hg s n h with h1 | ⟨h1, h2⟩
      · omega
      · split
        · rcases ih (d + 1) (g s n).1 (V (g s n).2 (d + 1) (g s n).1).2 (by omega) h2 with h3 | ⟨h3, h4⟩
          · left; exact h3
          · right; exact ⟨by omega, h4⟩
        · left; rfl
theorem walkS_gt {σ : Type} (V : σ → Nat → Nat → Int → Bool × σ) (cs : List Int) : ∀ f s (a : Int), 0 ≤ a → (walkS V cs f s a).1 = -1 ∨ (a < (walkS V cs f s a).1 ∧ (walkS V cs f s a).1 ≤ cs.length) := by
  intro f
  induction f with
  | zero => intro s a h; left; rfl
  | succ f ih =>
    intro s a h
    by_cases hl : (cs.length : Int) ≤ a
    · left; rw [walkS_out _ _ _ _ _ hl]
    · obtain ⟨n, rfl⟩ : ∃ n : Nat, a = n := ⟨a.toNat, by omega⟩
      rw [walkS_in _ _ _ _ _ (by omega)]
      split
      · rcases iterS_gt (walkS V cs f) (fun s d m => V s n d m) cs.length ih _ 0 ((n : Int) + 1) _ (by omega) (by omega) with h1 | ⟨h1, h2⟩
        · left; exact h1
        · right; exact ⟨by omega, h2⟩
      · left; rfl
theorem iterS_neg {σ : Type} {g : σ → Int → Int × σ} {V : σ → Nat → Int → Bool × σ} {t d : Nat} {n r : Int} {s s2 : σ} (hg : g s n = (r, s2)) (h : r < 0) : iterS g V (t + 1) d n s = (-1, s2) := by
  rw [iterS, hg, if_pos h]
theorem iterS_no {σ : Type} {g : σ → Int → Int × σ} {V : σ → Nat → Int → Bool × σ} {t d : Nat} {n r : Int} {s s2 s3 : σ} (hg : g s n = (r, s2)) (h : ¬ r < 0) (hv : V s2 (d + 1) r = (false, s3)) : iterS g V (t + 1) d n s = (-1, s3) := by
  rw [iterS, hg, if_neg h]; show (if (V s2 (d + 1) r).1 = true then _ else (_, (V s2 (d + 1) r).2)) = _
  rw [hv]; rfl
theorem iterS_yes {σ : Type} {g : σ → Int → Int × σ} {V : σ → Nat → Int → Bool × σ} {t d : Nat} {n r : Int} {s s2 s3 : σ} (hg : g s n = (r, s2)) (h : ¬ r < 0) (hv : V s2 (d + 1) r = (true, s3)) : iterS g V (t + 1) d n s = iterS g V t (d + 1) r s3 := by
  rw [iterS, hg, if_neg h]; show (if (V s2 (d + 1) r).1 = true then iterS g V t (d + 1) r (V s2 (d + 1) r).2 else _) = _
  rw [hv]; rfl
/-! ### Types -/
def vTy (l : List TyI) : Unit → Nat → Nat → Int → Bool × Unit := fun _ a d _ => (decide (0 < d) || (match l[a]? with | some x => itemB x | none => false), ())
def okR (l : List TyI) (a b : Int) : Prop := ∀ i (h : i < l.length), a ≤ (i : Int) → (i : Int) < b → itemB l[i] = true
open Classical in
theorem ty_iter (l : List TyI) (f : Nat) (n : Nat) (ih : ∀ (a : Int), 0 ≤ a → (walkS (vTy l) (l.map TyI.arity) f () a).1 = if 0 ≤ endF f l a ∧ okR l a (endF f l a) then endF f l a else -1) :
    ∀ t d (next : Int), 0 ≤ next → (iterS (walkS (vTy l) (l.map TyI.arity) f) (fun s d m => vTy l s n d m) t d next ()).1 = if 0 ≤ iterE (endF f l) t next ∧ okR l next (iterE (endF f l) t next) then iterE (endF f l) t next else -1 := by
  intro t
  induction t with
  | zero =>
    intro d next h
    rw [iterS, iterE, if_pos ⟨h, fun i hi h1 h2 => by omega⟩]
  | succ t iht =>
    intro d next h
    have hE : iterE (endF f l) (t + 1) next = iterE (endF f l) t (endF f l next) := by rw [iterE, if_neg (by omega)]
    rw [iterS, hE]
    have hr := ih next h
    have hst : (walkS (vTy l) (l.map TyI.arity) f () next).2 = () := rfl
    by_cases hc : 0 ≤ endF f l next ∧ okR l next (endF f l next)
    · rw [if_pos hc] at hr
      rw [if_neg (by omega), hr]
      rw [if_pos (show (vTy l (walkS (vTy l) (l.map TyI.arity) f () next).2 n (d + 1) (endF f l next)).1 = true from by simp [vTy])]
      have := iht (d + 1) (endF f l next) hc.1
      rw [show (vTy l (walkS (vTy l) (l.map TyI.arity) f () next).2 n (d + 1) (endF f l next)).2 = () from rfl, this]
      have hg := iter_gt f l t (endF f l next) hc.1
      have hgt := endF_gt f l next
      congr 1
      apply propext
      constructor
      · rintro ⟨h1, h2⟩
        refine ⟨h1, fun i hi h3 h4 => ?_⟩
        by_cases h5 : (i : Int) < endF f l next
        · exact hc.2 i hi h3 h5
        · exact h2 i hi (by omega) h4
      · rintro ⟨h1, h2⟩
        exact ⟨h1, fun i hi h3 h4 => h2 i hi (by omega) h4⟩
    · rw [if_neg hc] at hr
      rw [if_pos (by omega)]
      symm
      apply if_neg
      rintro ⟨h1, h2⟩
      apply hc
      by_cases h3 : 0 ≤ endF f l next
      · refine ⟨h3, fun i hi h4 h5 => h2 i hi h4 ?_⟩
        rcases iter_gt f l t (endF f l next) h3 with h6 | h6 <;> omega
      · rw [iterE_neg _ _ _ (by omega)] at h1
        omega
open Classical in
theorem ty_walk (l : List TyI) : ∀ f (a : Int), 0 ≤ a → (walkS (vTy l) (l.map TyI.arity) f () a).1 = if 0 ≤ endF f l a ∧ okR l a (endF f l a) then endF f l a else -1 := by
  intro f
  induction f with
  | zero => intro a h; rw [if_neg (by simp [endF])]; rfl
  | succ f ih =>
    intro a h
    by_cases hl : (l.length : Int) ≤ a
    · rw [walkS_out _ _ _ _ _ (by simpa using hl), endF_out _ _ _ (.inr hl), if_neg (by omega)]
    · obtain ⟨n, rfl⟩ : ∃ n : Nat, a = n := ⟨a.toNat, by omega⟩
      have hn : n < l.length := by omega
      rw [walkS_in _ _ _ _ _ (by simpa using hn), endF_in f l n hn]
      have hv : (vTy l () n 0 ((n : Int) + 1)).1 = itemB l[n] := by simp [vTy, List.getElem?_eq_getElem hn]
      rw [hv, show (vTy l () n 0 ((n : Int) + 1)).2 = () from rfl, List.getElem_map]
      cases hi : itemB l[n]
      · rw [if_neg (by simp), if_neg]
        rintro ⟨h1, h2⟩
        rcases iter_gt f l l[n].arity.toNat ((n : Int) + 1) (by omega) with h3 | h3
        · omega
        · have := h2 n hn (by omega) (by omega)
          rw [hi] at this
          cases this
      · rw [if_pos rfl, ty_iter l f n ih _ 0 _ (by omega)]
        congr 1
        apply propext
        constructor
        · rintro ⟨h1, h2⟩
          refine ⟨h1, fun i hil h3 h4 => ?_⟩
          by_cases h5 : i = n
          · subst h5; exact hi
          · exact h2 i hil (by omega) h4
        · rintro ⟨h1, h2⟩
          exact ⟨h1, fun i hil h3 h4 => h2 i hil (by omega) h4⟩
/-- The program's way to say that a type is valid. -/
theorem ty_ok (l : List TyI) (h : l.length ≤ 200) : tyOkB l = decide ((walkS (vTy l) (l.map TyI.arity) (l.length + 1) () 0).1 = (l.length : Int)) := by
  rw [ty_walk l (l.length + 1) 0 (Int.le_refl _), Bool.eq_iff_iff]
  simp only [tyOkB, Bool.and_eq_true, decide_eq_true_eq, List.all_eq_true]
  constructor
  · rintro ⟨_, h1, h2⟩
    rw [h2, if_pos ⟨by omega, fun i hi _ _ => h1 _ (List.getElem_mem hi)⟩]
  · intro h1
    split at h1
    · rename_i h2
      refine ⟨h, fun x hx => ?_, h1⟩
      obtain ⟨i, hi, rfl⟩ := List.getElem_of_mem hx
      exact h2.2 i hi (by omega) (by omega)
    · omega
/-! ### Nodes in preorder -/
def vPre (l : List (List Int)) : Unit → Nat → Nat → Int → Bool × Unit := fun _ a d n => (match l[a]? with | some ks => decide (d = ks.length) || decide (ks[d]? = some n) | none => false, ())
def lens (l : List (List Int)) : List Int := l.map fun k => (k.length : Int)
theorem pre_iter (l : List (List Int)) (f n : Nat) (hn : n < l.length) (ih : ∀ (a : Int), 0 ≤ a → (walkS (vPre l) (lens l) f () a).1 = pendF f l a) :
    ∀ t d (next : Int), 0 ≤ next → d + t = l[n].length → (vPre l () n d next).1 = true → (iterS (walkS (vPre l) (lens l) f) (fun s d m => vPre l s n d m) t d next ()).1 = kidsE (pendF f l) (l[n].drop d) next := by
  intro t
  induction t with
  | zero =>
    intro d next h hd hv
    rw [iterS, List.drop_eq_nil_of_le (by omega)]; rfl
  | succ t iht =>
    intro d next h hd hv
    have hdl : d < l[n].length := by omega
    have hk : l[n][d] = next := by
      simp only [vPre, List.getElem?_eq_getElem hn, Bool.or_eq_true, decide_eq_true_eq, List.getElem?_eq_getElem hdl, Option.some.injEq] at hv
      rcases hv with hv | hv
      · omega
      · exact hv
    rw [iterS, ih next h]
    by_cases hc : pendF f l next < 0
    · rw [if_pos hc, kidsE_neg _ _ _ hdl _ hk hc]
    · rw [if_neg hc, kidsE_step _ _ _ hdl _ hk hc]
      show (if (vPre l () n (d + 1) (pendF f l next)).1 = true then iterS (walkS (vPre l) (lens l) f) (fun s d m => vPre l s n d m) t (d + 1) (pendF f l next) () else (-1, ())).1 = _
      cases hv2 : (vPre l () n (d + 1) (pendF f l next)).1
      · rw [if_neg (by simp)]
        simp only [vPre, List.getElem?_eq_getElem hn, Bool.or_eq_false_iff, decide_eq_false_iff_not] at hv2
        have hdl2 : d + 1 < l[n].length := by omega
        rw [List.getElem?_eq_getElem hdl2] at hv2
        rw [kidsE_no _ _ _ hdl2 _ (by simpa using hv2.2)]
      · rw [if_pos rfl]
        exact iht (d + 1) _ (by omega) (by omega) hv2
theorem pre_walk (l : List (List Int)) : ∀ f (a : Int), 0 ≤ a → (walkS (vPre l) (lens l) f () a).1 = pendF f l a := by
  intro f
  induction f with
  | zero => intro a h; rfl
  | succ f ih =>
    intro a h
    by_cases hl : (l.length : Int) ≤ a
    · rw [walkS_out _ _ _ _ _ (by simpa [lens] using hl), pendF_out _ _ _ hl]
    · obtain ⟨n, rfl⟩ : ∃ n : Nat, a = n := ⟨a.toNat, by omega⟩
      have hn : n < l.length := by omega
      rw [walkS_in _ _ _ _ _ (by simpa [lens] using hn), pendF_in f l n hn]
      have hcl : ((lens l)[n]'(by simpa [lens] using hn)).toNat = l[n].length := by simp [lens]
      rw [hcl, show (vPre l () n 0 ((n : Int) + 1)).2 = () from rfl]
      cases hv : (vPre l () n 0 ((n : Int) + 1)).1
      · rw [if_neg (by simp)]
        simp only [vPre, List.getElem?_eq_getElem hn, Bool.or_eq_false_iff, decide_eq_false_iff_not] at hv
        have hdl : 0 < l[n].length := by omega
        rw [List.getElem?_eq_getElem hdl] at hv
        have := kidsE_no (pendF f l) l[n] 0 hdl ((n : Int) + 1) (by simpa using hv.2)
        rw [List.drop_zero] at this
        rw [this]
      · rw [if_pos rfl, pre_iter l f n hn ih _ 0 _ (by omega) (by omega) hv, List.drop_zero]
/-- What is visited has its kids beyond it, and within. -/
theorem pend_kids (l : List (List Int)) : ∀ f (a : Int), 0 ≤ a → 0 ≤ pendF f l a → ∀ i (hi : i < l.length), a ≤ (i : Int) → (i : Int) < pendF f l a → ∀ k ∈ l[i], (i : Int) < k ∧ k < pendF f l a := by
  intro f
  induction f with
  | zero => intro a h h0; rw [pendF] at h0; omega
  | succ f ih =>
    intro a h h0 i hi hai hie k hk
    by_cases hl : (l.length : Int) ≤ a
    · rw [pendF_out _ _ _ hl] at h0; omega
    · obtain ⟨n, rfl⟩ : ∃ n : Nat, a = n := ⟨a.toNat, by omega⟩
      have hn : n < l.length := by omega
      rw [pendF_in f l n hn] at h0 hie ⊢
      -- the kids, from a place on
      have key : ∀ (ks : List Int) (next : Int), 0 ≤ next → 0 ≤ kidsE (pendF f l) ks next →
          (∀ k ∈ ks, next ≤ k ∧ k < kidsE (pendF f l) ks next) ∧ ∀ i (hi : i < l.length), next ≤ (i : Int) → (i : Int) < kidsE (pendF f l) ks next → ∀ k ∈ l[i], (i : Int) < k ∧ k < kidsE (pendF f l) ks next := by
        intro ks
        induction ks with
        | nil =>
          intro next hn0 hE
          refine ⟨fun k hk => (by simp at hk), fun i hi h1 h2 => ?_⟩
          rw [kidsE] at h2
          omega
        | cons y ks ihk =>
          intro next hn0 hE
          rw [kidsE] at hE ⊢
          by_cases hy : y = next
          · rw [if_pos hy] at hE ⊢
            by_cases hg : pendF f l y < 0
            · rw [if_pos hg] at hE; omega
            · rw [if_neg hg] at hE ⊢
              subst hy
              obtain ⟨g1, g2⟩ := ihk (pendF f l y) (by omega) hE
              have hgt := pendF_gt f l y
              have hge := kidsE_gt (pendF f l) (pendF_gt f l) ks (pendF f l y)
              refine ⟨fun k hk => ?_, fun i hi h1 h2 k hk => ?_⟩
              · rcases List.mem_cons.1 hk with rfl | hk
                · omega
                · have := g1 k hk; omega
              · by_cases h3 : (i : Int) < pendF f l y
                · have := ih y hn0 (by omega) i hi h1 h3 k hk
                  omega
                · exact g2 i hi (by omega) h2 k hk
          · rw [if_neg hy] at hE; omega
      obtain ⟨k1, k2⟩ := key l[n] ((n : Int) + 1) (by omega) h0
      by_cases hin : i = n
      · subst hin
        have := k1 k hk
        omega
      · exact k2 i hi (by omega) hie k hk
/-- The program's way to say that nodes are one tree in preorder. -/
def preB (l : List (List Int)) : Bool := decide (l.length ≤ 600) && decide ((walkS (vPre l) (lens l) (l.length + 1) () 0).1 = (l.length : Int))
theorem preB_iff (l : List (List Int)) : preB l = true ↔ 1 ≤ l.length ∧ l.length ≤ 600 ∧ pendF (l.length + 1) l 0 = l.length := by
  rw [preB, pre_walk _ _ _ (Int.le_refl _)]
  simp only [Bool.and_eq_true, decide_eq_true_eq]
  constructor
  · rintro ⟨h1, h2⟩
    refine ⟨?_, h1, h2⟩
    by_cases h0 : l.length = 0
    · rw [pendF_out _ _ _ (by omega)] at h2; omega
    · omega
  · rintro ⟨_, h1, h2⟩; exact ⟨h1, h2⟩
theorem preB_kids (l : List (List Int)) (h : preB l = true) (i : Nat) (hi : i < l.length) (k : Int) (hk : k ∈ l[i]) : (i : Int) < k ∧ k < l.length := by
  obtain ⟨_, _, h3⟩ := (preB_iff l).1 h
  have := pend_kids l (l.length + 1) 0 (Int.le_refl _) (by omega) i hi (by omega) (by omega) k hk
  omega
/-! ### Patterns, as the program sees them -/
def isConsB (x : PN) : Bool := decide (x.kind = 4) && decide (x.s.toList = [58, 58])
def firstPK (q : List PN) : List Int → Int
  | k :: _ => match q[k.toNat]? with
    | some y => y.kind
    | none => 0
  | [] => 0
def isPNB (x : PN) : Bool := pnodeB true x.kind x.n x.s x.kids.length
def rightPB (q : List PN) (x : PN) : Bool := isPNB x && (!isConsB x || decide (firstPK q x.kids = 5))
theorem conOk_p (s : ByteArray) (m : Int) (p : Bool) : conOkB s m p = (conOkB s m true && (!decide (s.toList = [58, 58]) || p)) := by
  unfold conOkB
  by_cases h : s.toList = [58, 58]
  · rw [if_pos h, if_pos h]; simp [h]
  · rw [if_neg h, if_neg h]; simp [h]
theorem pnode_p (p : Bool) (k n : Int) (s : ByteArray) (m : Int) : pnodeB p k n s m = (pnodeB true k n s m && (!(decide (k = 4) && decide (s.toList = [58, 58])) || p)) := by
  unfold pnodeB
  by_cases h4 : k = 4
  · subst h4
    rw [if_neg (by decide), if_neg (by decide), if_neg (by decide), if_pos rfl, if_neg (by decide), if_neg (by decide), if_neg (by decide), if_pos rfl, conOk_p s m p]
    simp [Bool.and_assoc]
  · rw [if_neg h4]
    simp [h4]
theorem isPN_cons (x : PN) (h : isPNB x = true) (hc : isConsB x = true) : x.kids.length = 1 := by
  simp only [isConsB, Bool.and_eq_true, decide_eq_true_eq] at hc
  obtain ⟨h4, hs⟩ := hc
  unfold isPNB pnodeB at h
  rw [h4] at h
  rw [if_neg (by decide), if_neg (by decide), if_neg (by decide), if_pos rfl] at h
  unfold conOkB at h
  rw [if_pos hs] at h
  simp at h
  omega
theorem pnB_right (q : List PN) (x : PN) (hk : ∀ k ∈ x.kids, 0 ≤ k ∧ k < (q.length : Int)) : pnB q x = rightPB q x := by
  unfold pnB rightPB isPNB
  rw [pnode_p]
  by_cases hc : isConsB x = true
  · by_cases h : isPNB x = true
    · have h1 := isPN_cons x h hc
      obtain ⟨k, hkk⟩ : ∃ k, x.kids = [k] := List.length_eq_one_iff.1 h1
      have := hk k (by simp [hkk])
      rw [show (decide (x.kind = 4) && decide (x.s.toList = [58, 58])) = isConsB x from rfl, hc, hkk]
      have hg := List.getElem?_eq_getElem (show k.toNat < q.length by omega)
      rw [show pairB q [k] = decide (firstPK q [k] = 5) from by simp [pairB, firstPK, hg, this.1]]
    · have h' : pnodeB true x.kind x.n x.s x.kids.length = false := by simpa [isPNB] using h
      rw [h']; simp
  · have hc' : (decide (x.kind = 4) && decide (x.s.toList = [58, 58])) = false := by simpa [isConsB] using hc
    rw [show isConsB x = false from by simpa using hc, hc']
    simp
def TwiceP (q : List PN) : Prop := ∃ i k, ∃ (hi : i < q.length) (hk : k < i), clash q[i] q[k]
theorem propB_iff {P : Prop} : propB P = true ↔ P := by
  constructor
  · intro h
    rcases Classical.em P with h' | h'
    · exact h'
    · rw [propB_f h'] at h; cases h
  · exact propB_t
theorem pat_kids (q : List PN) (h : preB (q.map PN.kids) = true) : ∀ x ∈ q, ∀ k ∈ x.kids, 0 ≤ k ∧ k < (q.length : Int) := by
  intro x hx k hk
  obtain ⟨i, hi, rfl⟩ := List.getElem_of_mem hx
  have := preB_kids (q.map PN.kids) h i (by simpa using hi) k (by simpa using hk)
  rw [List.length_map] at this
  omega
theorem pat_ok (q : List PN) : patOkB q = (preB (q.map PN.kids) && (q.all (rightPB q) && !propB (TwiceP q))) := by
  rw [Bool.eq_iff_iff, patOkB, propB_iff]
  simp only [Bool.and_eq_true, Bool.not_eq_true']
  rw [preB_iff]
  simp only [List.length_map]
  constructor
  · rintro ⟨h1, h2, h3, h4⟩
    have hp : preB (q.map PN.kids) = true := (preB_iff _).2 ⟨by simpa using h1, by simpa using h2, by simpa using h4⟩
    refine ⟨⟨h1, h2, h4⟩, List.all_eq_true.2 fun x hx => ?_, propB_f ?_⟩
    · obtain ⟨i, hi, rfl⟩ := List.getElem_of_mem hx
      rw [← pnB_right q _ (pat_kids q hp _ hx)]
      exact (h3 i hi).1
    · rintro ⟨i, k, hi, hk, hc⟩
      exact (h3 i hi).2 k hk hc
  · rintro ⟨⟨h1, h2, h4⟩, h5, h6⟩
    have hp : preB (q.map PN.kids) = true := (preB_iff _).2 ⟨by simpa using h1, by simpa using h2, by simpa using h4⟩
    refine ⟨h1, h2, fun i hi => ⟨?_, fun k hk hc => ?_⟩, h4⟩
    · rw [pnB_right q _ (pat_kids q hp _ (List.getElem_mem hi))]
      exact List.all_eq_true.1 h5 _ (List.getElem_mem hi)
    · have := propB_t (P := TwiceP q) ⟨i, k, hi, hk, hc⟩
      rw [h6] at this; cases this
/-! ### Programs, as the program sees them -/
def firstNK (p : List Nd) : List Int → Int
  | k :: _ => match p[k.toNat]? with
    | some y => y.kind
    | none => 0
  | [] => 0
def rnB (x : Nd) : Bool := if x.kind = 1 then decide (0 ≤ x.n) && decide (x.n ≤ 4611686018427387903) else decide (x.n = 0)
def rsB (x : Nd) : Bool := if x.kind = 2 then true else if x.kind = 3 ∨ x.kind = 5 ∨ x.kind = 7 ∨ x.kind = 8 ∨ x.kind = 15 then nameB x.s else if x.kind = 4 then conOkB x.s x.kids.length true else if x.kind = 10 then primB x.s else decide (x.s.toList = [])
def rkB (k : Int) (m : Int) : Bool :=
  if k = 1 ∨ k = 2 ∨ k = 3 ∨ k = 12 then decide (m = 0) else if k = 4 then decide (m ≤ 1) else if k = 5 ∨ k = 14 ∨ k = 16 ∨ k = 17 then decide (m = 1)
  else if k = 6 ∨ k = 7 ∨ k = 8 ∨ k = 10 ∨ k = 11 ∨ k = 15 ∨ k = 18 ∨ k = 19 then decide (m = 2) else if k = 9 then decide (m = 3) else if k = 13 then decide (2 ≤ m) else false
noncomputable def rpB (x : Nd) : Bool := if x.kind = 13 then decide ((x.pats.length : Int) = (x.kids.length : Int) - 1) && x.pats.all patOkB else decide (x.pats.length = 0)
def isConsN (x : Nd) : Bool := decide (x.kind = 4) && decide (x.s.toList = [58, 58])
def rfB (p : List Nd) (x : Nd) : Bool := if x.kind = 8 then decide (firstNK p x.kids = 5) else if isConsN x = true then decide (firstNK p x.kids = 11) else true
noncomputable def isNodeB (x : Nd) : Bool := decide (0 ≤ x.at_) && (rnB x && (rsB x && (rkB x.kind x.kids.length && rpB x)))
noncomputable def rightNB (p : List Nd) (x : Nd) : Bool := isNodeB x && rfB p x
theorem patOkB_iff (q : List PN) : patOkB q = true ↔ PatOkP q := propB_iff
theorem first_eq (p : List Nd) (ks : List Int) (c : Int) (hc : c ≠ 0) (hk : ∀ k ∈ ks, 0 ≤ k ∧ k < (p.length : Int)) : firstKind p ks = some c ↔ firstNK p ks = c := by
  cases ks with
  | nil => simp [firstKind, firstNK]; omega
  | cons k ks =>
    have := hk k (by simp)
    simp only [firstKind, firstNK]
    rw [List.getElem?_eq_getElem (show k.toNat < p.length by omega)]
    simp
theorem isNode_first (x : Nd) (h : isNodeB x = true) (hc : x.kind = 8 ∨ isConsN x = true) : 1 ≤ x.kids.length := by
  simp only [isNodeB, Bool.and_eq_true] at h
  obtain ⟨_, _, h3, h4, _⟩ := h
  rcases hc with hc | hc
  · rw [hc] at h4; simp [rkB] at h4; omega
  · simp only [isConsN, Bool.and_eq_true, decide_eq_true_eq] at hc
    unfold rsB at h3
    rw [hc.1] at h3
    rw [if_neg (by decide), if_neg (by decide), if_pos rfl] at h3
    unfold conOkB at h3
    rw [if_pos hc.2] at h3
    simp at h3
    omega
theorem nd_right (p : List Nd) (x : Nd) (hk : ∀ k ∈ x.kids, 0 ≤ k ∧ k < (p.length : Int)) : NdOkP p x ↔ rightNB p x = true := by
  have f5 := first_eq p x.kids 5 (by decide) hk
  have f11 := first_eq p x.kids 11 (by decide) hk
  by_cases hr : 1 ≤ x.kind ∧ x.kind ≤ 19
  · have hc : x.kind = 1 ∨ x.kind = 2 ∨ x.kind = 3 ∨ x.kind = 4 ∨ x.kind = 5 ∨ x.kind = 6 ∨ x.kind = 7 ∨ x.kind = 8 ∨ x.kind = 9 ∨ x.kind = 10 ∨ x.kind = 11 ∨ x.kind = 12 ∨ x.kind = 13 ∨ x.kind = 14 ∨ x.kind = 15 ∨ x.kind = 16 ∨ x.kind = 17 ∨ x.kind = 18 ∨ x.kind = 19 := by omega
    by_cases h4 : x.kind = 4
    · simp only [NdOkP, NdHead, NdText, NdRest, rightNB, isNodeB, rnB, rsB, rpB, rfB, rkB, namedK, h4, isConsN]
      rw [conOk_p, show decide (firstKind p x.kids = some 11) = decide (firstNK p x.kids = 11) from by rw [Bool.eq_iff_iff]; simpa using f11]
      by_cases hs : x.s.toList = [58, 58]
      · have h1 : conOkB x.s x.kids.length true = decide ((x.kids.length : Int) = 1) := by unfold conOkB; rw [if_pos hs]; simp
        simp [hs, h1]
        constructor
        · rintro ⟨⟨a, b, c, d⟩, e, f, g⟩
          have : x.kids.length = 1 := by omega
          simp_all
        · rintro ⟨⟨a, b, c, d, e⟩, f⟩
          have : x.kids.length = 1 := by omega
          simp_all
      · simp [hs]
        constructor
        · rintro ⟨⟨a, b, c⟩, d, e, f⟩
          refine ⟨a, b, f, ?_, e⟩
          unfold conOkB at f
          rw [if_neg hs] at f
          split at f
          · simp only [decide_eq_true_eq] at f; omega
          · simp at f; omega
        · rintro ⟨a, b, c, d, e⟩
          exact ⟨⟨a, b, by omega⟩, hk, e, c⟩
    · have hc' := hc
      clear hc
      by_cases h13 : x.kind = 13
      · simp [NdOkP, NdHead, NdText, NdRest, rightNB, isNodeB, rnB, rsB, rpB, rfB, rkB, namedK, h13, isConsN, patOkB_iff]
        constructor
        · rintro ⟨⟨a, b, c⟩, d, e, f, g, h⟩
          exact ⟨a, b, e, by omega, by omega, f⟩
        · rintro ⟨a, b, e, f, g, h⟩
          exact ⟨⟨a, b, by omega⟩, hk, e, h, by omega, by omega⟩
      · rcases hc' with h | h | h | h | h | h | h | h | h | h | h | h | h | h | h | h | h | h | h
        all_goals first
          | exact absurd h h4
          | exact absurd h h13
          | (simp [NdOkP, NdHead, NdText, NdRest, rightNB, isNodeB, rnB, rsB, rpB, rfB, rkB, namedK, kidsN, h, isConsN, ← f5]
             constructor
             · intro hh; simp_all
             · intro hh; simp_all
             done)
          | (simp [NdOkP, NdHead, NdText, NdRest, rightNB, isNodeB, rnB, rsB, rpB, rfB, rkB, namedK, kidsN, h, ← f5]
             constructor
             · intro hh; simp_all; try omega
             · intro hh; simp_all; try omega)
  · constructor
    · intro h
      exact absurd ⟨h.1.1, h.1.2.1⟩ hr
    · intro h
      simp only [rightNB, isNodeB, Bool.and_eq_true] at h
      have h4 := h.1.2.2.2.1
      unfold rkB at h4
      exfalso
      repeat' (split at h4)
      all_goals first | omega | cases h4
noncomputable def isConB (params : Int) (c : Cn) : Bool := conB c.name && (if c.has = false then decide (c.arg.length = 0) else tyOkB c.arg && c.arg.all fun x => !decide (x.name.toList = []) || decide (x.var < params))
noncomputable def isTypeB (t : Tp) : Bool := nameB t.name && (decide (0 ≤ t.params) && (decide (t.params ≤ 2) && (decide (1 ≤ t.cons.length) && (decide (t.cons.length ≤ 8) && t.cons.all (isConB t.params)))))
theorem cn_ok (params : Int) (c : Cn) : CnOkP params c ↔ isConB params c = true := by
  unfold CnOkP isConB
  cases c.has
  · simp
  · simp
    intro h1
    constructor
    · rintro ⟨a, b⟩
      refine ⟨b, fun x hx => ?_⟩
      rcases Classical.em (x.name.toList = []) with h | h
      · right; exact a x hx h
      · left; exact h
    · rintro ⟨a, b⟩
      refine ⟨fun x hx h => ?_, a⟩
      rcases b x hx with h' | h'
      · exact absurd h h'
      · exact h'
theorem tp_ok (t : Tp) : TpOkP t ↔ isTypeB t = true := by
  unfold TpOkP isTypeB
  simp only [Bool.and_eq_true, decide_eq_true_eq, List.all_eq_true]
  constructor
  · rintro ⟨a, b, c, d, e, f⟩; exact ⟨a, b, c, d, e, fun x hx => (cn_ok _ _).1 (f x hx)⟩
  · rintro ⟨a, b, c, d, e, f⟩; exact ⟨a, b, c, d, e, fun x hx => (cn_ok _ _).2 (f x hx)⟩
theorem pg_kids (l : List Nd) (h : preB (l.map Nd.kids) = true) : ∀ x ∈ l, ∀ k ∈ x.kids, 0 ≤ k ∧ k < (l.length : Int) := by
  intro x hx k hk
  obtain ⟨i, hi, rfl⟩ := List.getElem_of_mem hx
  have := preB_kids (l.map Nd.kids) h i (by simpa using hi) k (by simpa using hk)
  rw [List.length_map] at this
  omega
theorem pg_ok (p : Pg) : pgOkB p = (decide (p.types.length ≤ 8) && (p.types.all isTypeB && (preB (p.nodes.map Nd.kids) && p.nodes.all (rightNB p.nodes)))) := by
  rw [Bool.eq_iff_iff, pgOkB, propB_iff]
  simp only [Bool.and_eq_true, decide_eq_true_eq, List.all_eq_true]
  rw [preB_iff]
  simp only [List.length_map]
  constructor
  · rintro ⟨h1, h2, h3, h4, h5, h6⟩
    have hp : preB (p.nodes.map Nd.kids) = true := (preB_iff _).2 ⟨by simpa using h1, by simpa using h2, by simpa using h6⟩
    exact ⟨h3, fun t ht => (tp_ok t).1 (h4 t ht), ⟨h1, h2, h6⟩, fun x hx => (nd_right _ x (pg_kids _ hp x hx)).1 (h5 x hx)⟩
  · rintro ⟨h3, h4, ⟨h1, h2, h6⟩, h5⟩
    have hp : preB (p.nodes.map Nd.kids) = true := (preB_iff _).2 ⟨by simpa using h1, by simpa using h2, by simpa using h6⟩
    exact ⟨h1, h2, h3, fun t ht => (tp_ok t).2 (h4 t ht), fun x hx => (nd_right _ x (pg_kids _ hp x hx)).2 (h5 x hx), h6⟩
end Go.Proofs.YtdhpmblhejcehaaDoor
namespace Go.Proofs.YtdhpmblhejcehaaDoor
set_option linter.unusedVariables false
open Go.RowKit

theorem pr_loop_len (bs : ByteArray) : ∀ (n i : Nat) (r : List UInt8), bs.size - i = n → (ByteArray.toList.loop bs i r) = r.reverse ++ bs.data.toList.drop i := by
  intro n
  induction n with
  | zero =>
    intro i r h
    unfold ByteArray.toList.loop
    have : ¬ i < bs.size := by omega
    have h2 : bs.data.toList.length ≤ i := by have e : bs.size = bs.data.toList.length := rfl; omega
    rw [if_neg this, List.drop_eq_nil_of_le h2, List.append_nil]
  | succ n ih =>
    intro i r h
    unfold ByteArray.toList.loop
    have hi : i < bs.size := by omega
    rw [if_pos hi, ih (i + 1) _ (by omega)]
    have hd : i < bs.data.toList.length := hi
    rw [List.drop_eq_getElem_cons hd, List.reverse_cons, List.append_assoc]
    congr 1
    show bs.get! i :: _ = _
    congr 1
    show bs.data[i]! = _
    rw [getElem!_pos bs.data i hi]; rfl
theorem pr_toList (bs : ByteArray) : bs.toList = bs.data.toList := by
  unfold ByteArray.toList; rw [pr_loop_len bs _ 0 [] rfl]; rfl
def arrowB (s : ByteArray) : Bool := s.toList == [45, 62] || s.toList == [42]
/-- The texts of an item: ahead of its first kid, between its kids, behind the last. vt: the text of a variable. -/
def itemT (vt : Int → List UInt8) (x : TyI) : List (List UInt8) :=
  if x.name.toList = [] then [vt x.var]
  else if x.arity = 0 then [x.name.toList]
  else if x.arity = 1 then [[40], [41, 32] ++ x.name.toList]
  else if arrowB x.name = true then [[40], [32] ++ x.name.toList ++ [32], [41]]
  else [[40], [44, 32], [41, 32] ++ x.name.toList]
/-- The model's text of the type that begins at a place. -/
def prTy (vt : Int → List UInt8) : Nat → List TyI → Int → List UInt8
  | 0, _, _ => []
  | f + 1, l, a => match l[a.toNat]? with
    | none => []
    | some x =>
      if x.name.toList = [] then vt x.var
      else if x.arity = 0 then x.name.toList
      else if x.arity = 1 then [40] ++ prTy vt f l (a + 1) ++ [41, 32] ++ x.name.toList
      else if arrowB x.name = true then [40] ++ prTy vt f l (a + 1) ++ [32] ++ x.name.toList ++ [32] ++ prTy vt f l (endF f l (a + 1)) ++ [41]
      else [40] ++ prTy vt f l (a + 1) ++ [44, 32] ++ prTy vt f l (endF f l (a + 1)) ++ [41, 32] ++ x.name.toList
/-- The visitor that gathers the pieces. -/
def vPr (vt : Int → List UInt8) (l : List TyI) (s : List (List UInt8)) (a d : Nat) (_ : Int) : Bool × List (List UInt8) :=
  (true, s ++ [match l[a]? with | some x => (itemT vt x)[d]?.getD [] | none => []])
theorem vPr_at (vt : Int → List UInt8) (l : List TyI) (s : List (List UInt8)) (a d : Nat) (n : Int) (h : a < l.length) : vPr vt l s a d n = (true, s ++ [(itemT vt l[a])[d]?.getD []]) := by
  unfold vPr
  rw [List.getElem?_eq_getElem h]
theorem item_arity {x : TyI} (h : itemB x = true) : x.arity = 0 ∨ x.arity = 1 ∨ x.arity = 2 := by
  unfold itemB at h
  split at h
  · simp only [Bool.and_eq_true, decide_eq_true_eq] at h; exact .inl h.2.2
  · split at h
    · split at h
      · exact .inr (.inr (by simpa using h))
      · split at h
        · exact .inr (.inl (by simpa using h))
        · simp only [Bool.and_eq_true, decide_eq_true_eq] at h; omega
    · cases h
theorem item_name {x : TyI} (h : itemB x = true) : x.name.toList.length ≤ 12 := by
  unfold itemB at h
  split at h
  · next hn => rw [hn]; simp
  · split at h
    · split at h
      · next hn => rcases hn with hn | hn <;> rw [hn] <;> simp
      · split at h
        · next hn => rw [hn]; simp
        · simp only [Bool.and_eq_true, decide_eq_true_eq] at h
          have hw := h.1
          unfold nameB wordB lenB at hw
          simp only [Bool.and_eq_true, decide_eq_true_eq] at hw
          rw [pr_toList]
          exact hw.1.1.2
    · cases h
theorem item_var {x : TyI} (h : itemB x = true) (hn : x.name.toList = []) : 0 ≤ x.var ∧ x.var ≤ 9999 ∧ x.arity = 0 := by
  unfold itemB at h
  rw [if_pos hn] at h
  simp only [Bool.and_eq_true, decide_eq_true_eq] at h
  exact ⟨h.1, h.2.1, h.2.2⟩
/-- What the walk gathers. -/
def Woven (vt : Int → List UInt8) (l : List TyI) (f : Nat) (a : Int) (P : List (List UInt8)) : Prop :=
  P.flatten = prTy vt f l a ∧ (P.flatten.length : Int) ≤ 40 * (endF f l a - a) ∧ (P.length : Int) ≤ 3 * (endF f l a - a)
theorem pr_walk (vt : Int → List UInt8) (hvt : ∀ v, 0 ≤ v → v ≤ 9999 → (vt v).length ≤ 22) (l : List TyI) (hall : ∀ x ∈ l, itemB x = true) :
    ∀ (f : Nat) (a : Int) (s : List (List UInt8)), 0 ≤ a → 0 ≤ endF f l a → ∃ P, walkS (vPr vt l) (l.map TyI.arity) f s a = (endF f l a, s ++ P) ∧ Woven vt l f a P := by
  intro f
  induction f with
  | zero => intro a s _ h; simp [endF] at h
  | succ f ih =>
    intro a s ha h
    obtain ⟨n, rfl⟩ : ∃ n : Nat, a = n := ⟨a.toNat, by omega⟩
    have hlt : n < l.length := by
      by_cases hc : n < l.length
      · exact hc
      · rw [endF_out _ _ _ (.inr (by omega))] at h; omega
    have hx := hall l[n] (List.getElem_mem hlt)
    have har := item_arity hx
    have hnm := item_name hx
    have hvar := item_var hx
    rw [walkS_in _ _ _ _ _ (by simpa using hlt)]
    simp only [vPr_at vt l _ n _ _ hlt, if_true, List.getElem_map]
    rw [endF_in f l n hlt] at h
    have hpr : ∀ P : List (List UInt8), Woven vt l (f + 1) n P ↔ (P.flatten = (if l[n].name.toList = [] then vt l[n].var
      else if l[n].arity = 0 then l[n].name.toList
      else if l[n].arity = 1 then [40] ++ prTy vt f l ((n : Int) + 1) ++ [41, 32] ++ l[n].name.toList
      else if arrowB l[n].name = true then [40] ++ prTy vt f l ((n : Int) + 1) ++ [32] ++ l[n].name.toList ++ [32] ++ prTy vt f l (endF f l ((n : Int) + 1)) ++ [41]
      else [40] ++ prTy vt f l ((n : Int) + 1) ++ [44, 32] ++ prTy vt f l (endF f l ((n : Int) + 1)) ++ [41, 32] ++ l[n].name.toList)
        ∧ (P.flatten.length : Int) ≤ 40 * (iterE (endF f l) l[n].arity.toNat ((n : Int) + 1) - n) ∧ (P.length : Int) ≤ 3 * (iterE (endF f l) l[n].arity.toNat ((n : Int) + 1) - n)) := by
      intro P
      unfold Woven
      rw [endF_in f l n hlt, prTy, Int.toNat_natCast, List.getElem?_eq_getElem hlt]
    simp only [hpr, endF_in f l n hlt]
    clear hpr hall
    generalize l[n] = x at *
    rcases har with h0 | h1 | h2
    · rw [h0]
      refine ⟨[(itemT vt x)[0]?.getD []], by simp [iterS, iterE], ?_⟩
      by_cases hn : x.name.toList = []
      · have := hvt x.var (hvar hn).1 (hvar hn).2.1
        simp [itemT, hn, iterE]; omega
      · simp [itemT, hn, h0, iterE]; omega
    · have hn : x.name.toList ≠ [] := fun e => by have := (hvar e).2.2; omega
      rw [h1] at h ⊢
      have e1 : (1 : Int).toNat = 1 := rfl
      rw [e1, iterE, if_neg (by omega)] at h
      simp only [iterE] at h
      obtain ⟨P, hP, hW1, hW2, hW3⟩ := ih ((n : Int) + 1) (s ++ [(itemT vt x)[0]?.getD []]) (by omega) h
      rw [e1]
      have hnl : ¬ endF f l ((n : Int) + 1) < 0 := by omega
      rw [iterS_yes (r := endF f l ((n : Int) + 1)) (s2 := s ++ [(itemT vt x)[0]?.getD []] ++ P) (s3 := s ++ [(itemT vt x)[0]?.getD []] ++ P ++ [(itemT vt x)[1]?.getD []]) hP hnl (by rfl)]
      refine ⟨[(itemT vt x)[0]?.getD []] ++ P ++ [(itemT vt x)[1]?.getD []], ?_, ?_, ?_, ?_⟩
      · rw [iterE, if_neg (by omega)]; simp [iterS, iterE]
      · simp [itemT, hn, h1, hW1]
      · rw [iterE, if_neg (by omega)]; simp [itemT, hn, h1, iterE] at hW2 ⊢; omega
      · rw [iterE, if_neg (by omega)]; simp [iterE] at hW3 ⊢; omega
    · have hn : x.name.toList ≠ [] := fun e => by have := (hvar e).2.2; omega
      rw [h2] at h ⊢
      have e1 : (2 : Int).toNat = 2 := rfl
      rw [e1, iterE, if_neg (by omega)] at h
      have hq : 0 ≤ endF f l ((n : Int) + 1) := by
        by_cases hc : 0 ≤ endF f l ((n : Int) + 1)
        · exact hc
        · rw [iterE, if_pos (by omega)] at h; omega
      rw [iterE, if_neg (by omega)] at h
      simp only [iterE] at h
      obtain ⟨P, hP, hW1, hW2, hW3⟩ := ih ((n : Int) + 1) (s ++ [(itemT vt x)[0]?.getD []]) (by omega) hq
      obtain ⟨P2, hP2, hV1, hV2, hV3⟩ := ih (endF f l ((n : Int) + 1)) (s ++ [(itemT vt x)[0]?.getD []] ++ P ++ [(itemT vt x)[1]?.getD []]) hq h
      rw [e1]
      have hnl : ¬ endF f l ((n : Int) + 1) < 0 := by omega
      have hnl2 : ¬ endF f l (endF f l ((n : Int) + 1)) < 0 := by omega
      rw [iterS_yes (r := endF f l ((n : Int) + 1)) (s2 := s ++ [(itemT vt x)[0]?.getD []] ++ P) (s3 := s ++ [(itemT vt x)[0]?.getD []] ++ P ++ [(itemT vt x)[1]?.getD []]) hP hnl (by rfl),
        iterS_yes (r := endF f l (endF f l ((n : Int) + 1))) (s2 := s ++ [(itemT vt x)[0]?.getD []] ++ P ++ [(itemT vt x)[1]?.getD []] ++ P2) (s3 := s ++ [(itemT vt x)[0]?.getD []] ++ P ++ [(itemT vt x)[1]?.getD []] ++ P2 ++ [(itemT vt x)[2]?.getD []]) hP2 hnl2 (by rfl)]
      refine ⟨[(itemT vt x)[0]?.getD []] ++ P ++ [(itemT vt x)[1]?.getD []] ++ P2 ++ [(itemT vt x)[2]?.getD []], ?_, ?_, ?_, ?_⟩
      · rw [iterE, if_neg (by omega), iterE, if_neg (by omega)]; simp [iterS, iterE]
      · cases hab : arrowB x.name <;> simp [itemT, hn, h2, hab, hW1, hV1]
      · rw [iterE, if_neg (by omega), iterE, if_neg (by omega)]
        cases hab : arrowB x.name <;> simp [itemT, hn, h2, hab, iterE] at hW2 hV2 ⊢ <;> omega
      · rw [iterE, if_neg (by omega), iterE, if_neg (by omega)]; simp [iterE] at hW3 hV3 ⊢; omega
/-- Of a right type. -/
theorem pr_ok (vt : Int → List UInt8) (hvt : ∀ v, 0 ≤ v → v ≤ 9999 → (vt v).length ≤ 22) (l : List TyI) (h : tyOkB l = true) :
    ∃ P, walkS (vPr vt l) (l.map TyI.arity) (l.length + 1) [] 0 = ((l.length : Int), P) ∧ P.flatten = prTy vt (l.length + 1) l 0 ∧ P.flatten.length ≤ 8000 ∧ P.length ≤ 600 := by
  unfold tyOkB at h
  simp only [Bool.and_eq_true, decide_eq_true_eq] at h
  obtain ⟨h0, h1, h2⟩ := h
  obtain ⟨P, hP, hW1, hW2, hW3⟩ := pr_walk vt hvt l (fun x hx => List.all_eq_true.1 h1 x hx) (l.length + 1) 0 [] (Int.le_refl _) (by rw [h2]; omega)
  rw [h2] at hP hW2 hW3
  exact ⟨P, by simpa using hP, hW1, by omega, by omega⟩
end Go.Proofs.YtdhpmblhejcehaaDoor
namespace Go.Proofs.YtdhpmblhejcehaaDoor
set_option linter.unusedVariables false
open Go.RowKit

/-- A cell, its two values shown. -/
def ceT (c : Ce) (a b : List UInt8) : List UInt8 :=
  if c.kind = 1 then [40] ++ c.s.toList ++ [32] ++ a ++ [41]
  else if c.kind = 2 then [40] ++ a ++ [44, 32] ++ b ++ [41]
  else if c.kind = 3 then [60, 102, 117, 110, 32] ++ numL c.n ++ [32] ++ a ++ [62]
  else if c.kind = 4 then [60, 114, 101, 99, 32] ++ numL c.n ++ [32] ++ a ++ [62]
  else if c.kind = 5 then [123] ++ a ++ [125]
  else [91] ++ a ++ [32] ++ b ++ [93]
/-- A value that is no cell. -/
def plT (v : Vl) : List UInt8 :=
  if v.kind = 1 then numL v.n else if v.kind = 2 then quoteL v.s.toList else if v.kind = 3 then [40, 41]
  else if v.kind = 4 then v.s.toList else if v.kind = 5 then [60] ++ v.s.toList ++ [62] else [45]
/-- A value, so many cells deep. -/
def shT (h : List Ce) : Nat → Vl → List UInt8
  | 0, v => if v.kind = 6 then [63] else plT v
  | d + 1, v => if v.kind = 6 then (match h[v.n.toNat]? with | some c => ceT c (shT h d c.a) (shT h d c.b) | none => []) else plT v
theorem shT_pl (h : List Ce) (d : Nat) (v : Vl) (hk : v.kind ≠ 6) : shT h d v = plT v := by
  cases d <;> rw [shT, if_neg hk]
theorem shT_at (h : List Ce) (d : Nat) (v : Vl) (p : Nat) (hk : v.kind = 6) (hv : v.n.toNat = p) (hp : p < h.length) : shT h (d + 1) v = ceT h[p] (shT h d h[p].a) (shT h d h[p].b) := by
  subst hv
  rw [shT, if_pos hk, List.getElem?_eq_getElem hp]
theorem sh_quote (s : ByteArray) : (quoteL s.toList).length ≤ 4 * s.size + 2 := by
  have := flat_length s.toList
  have h2 : s.toList.length = s.size := by rw [pr_toList]; rfl
  unfold quoteL
  simp only [List.length_cons, List.length_append, List.length_nil]
  omega
theorem sh_num (n : Int) : (numL n).length ≤ 24 := by
  unfold numL Lib.itoa
  by_cases hW : W n = n
  · have := W_range n
    rw [hW] at this
    rw [if_pos hW]
    split
    · have := digits_len n.natAbs (by omega)
      rw [List.length_cons]; omega
    · have := digits_len n.toNat (by omega); omega
  · rw [if_neg hW]; simp
theorem sh_str (s : ByteArray) : s.toList.length = s.size := by rw [pr_toList]; rfl
theorem plT_len (v : Vl) : (plT v).length ≤ 4 * v.s.size + 30 := by
  have h1 := sh_num v.n
  have h2 := sh_quote v.s
  have h3 := sh_str v.s
  unfold plT
  repeat' split
  all_goals
    try simp only [List.length_append, List.length_cons, List.length_nil]
    omega
theorem ceT_len (c : Ce) (a b : List UInt8) : (ceT c a b).length ≤ a.length + b.length + c.s.size + 40 := by
  have h1 := sh_num c.n
  have h3 := sh_str c.s
  unfold ceT
  repeat' split
  all_goals
    try simp only [List.length_append, List.length_cons, List.length_nil]
    omega
/-- How long it gets: it doubles with each cell. -/
theorem shT_len (h : List Ce) (M : Nat) (hM : ∀ c ∈ h, c.s.size ≤ M ∧ c.a.s.size ≤ M ∧ c.b.s.size ≤ M) : ∀ (d : Nat) (v : Vl), v.s.size ≤ M → (shT h d v).length + (4 * M + 100) ≤ (4 * M + 100) * 2 ^ (d + 1) := by
  intro d
  induction d with
  | zero =>
    intro v hv
    by_cases hk : v.kind = 6
    · rw [shT, if_pos hk]; simp; omega
    · have := plT_len v
      rw [shT, if_neg hk]; omega
  | succ d ih =>
    intro v hv
    have hp : (4 * M + 100) * 2 ^ (d + 1 + 1) = (4 * M + 100) * 2 ^ (d + 1) * 2 := by rw [Nat.pow_succ (n := 2) (m := d + 1)]; rw [Nat.mul_assoc]
    have h1 : 1 * 2 ≤ 2 ^ (d + 1) := by rw [Nat.pow_succ]; exact Nat.mul_le_mul_right 2 (Nat.one_le_two_pow)
    have h2 : (4 * M + 100) * 2 ≤ (4 * M + 100) * 2 ^ (d + 1) := Nat.mul_le_mul_left _ (by omega)
    by_cases hk : v.kind = 6
    · rw [shT, if_pos hk]
      cases hc : h[v.n.toNat]? with
      | none => simp; omega
      | some c =>
        have hm := hM c (List.mem_of_getElem? hc)
        have ha := ih c.a hm.2.1
        have hb := ih c.b hm.2.2
        have := ceT_len c (shT h d c.a) (shT h d c.b)
        simp only
        omega
    · have := plT_len v
      rw [shT, if_neg hk]; omega
/-- Show. -/
noncomputable def shRes (h : List Ce) (v : Vl) (deep : Int) : ByteArray := if heapB h [v] = true ∧ deep ≤ 12 then ⟨(shT h deep.toNat v).toArray⟩ else ⟨#[]⟩
theorem sh_bulk {h : List Ce} (hz : bulkL bCe h ≤ 1048576) : ∀ c ∈ h, c.s.size ≤ 1048576 ∧ c.a.s.size ≤ 1048576 ∧ c.b.s.size ≤ 1048576 := by
  intro c hc
  obtain ⟨i, hi, rfl⟩ := List.getElem_of_mem hc
  have := bulkL_mem bCe h i hi
  have e : bCe h[i] = h[i].s.size + h[i].a.s.size + h[i].b.s.size := rfl
  omega
theorem sh_size {h : List Ce} {v : Vl} (hz : bulkL bCe h ≤ 1048576) (hv : v.s.size ≤ 1048576) (d : Nat) (hd : d ≤ 12) : (shT h d v).length ≤ 40000000000 := by
  have := shT_len h 1048576 (sh_bulk hz) d v hv
  have h2 : 2 ^ (d + 1) ≤ 2 ^ 13 := Nat.pow_le_pow_right (by omega) (by omega)
  have h3 : (4 * 1048576 + 100) * 2 ^ (d + 1) ≤ (4 * 1048576 + 100) * 2 ^ 13 := Nat.mul_le_mul_left _ h2
  omega
end Go.Proofs.YtdhpmblhejcehaaDoor
