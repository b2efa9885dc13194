/- The text of a pattern: woven out of the texts of its nodes (the program), and by recursion (the model). -/
import Derived.Test.YtcllifmaokldbaaDoorPrMath
import Derived.Test.YtcllifmaokldbaaDoorHtMath
namespace Go.Proofs.YtcllifmaokldbaaDoor
set_option linter.unusedVariables false
open Go.RowKit

/-! ### Weaving, of any tree -/
/-- The kids' texts, behind each the next piece of the node's own. -/
def wF (g : Nat → List UInt8) (T : List (List UInt8)) : Nat → List Int → List UInt8
  | _, [] => []
  | d, k :: ks => g k.toNat ++ (T[d + 1]?.getD [] ++ wF g T (d + 1) ks)
def wT (L : List (List (List UInt8))) (l : List (List Int)) : Nat → Nat → List UInt8
  | 0, _ => []
  | f + 1, a => ((L[a]?.getD [])[0]?.getD []) ++ wF (wT L l f) (L[a]?.getD []) 0 (l[a]?.getD [])
/-- The visitor that gathers the pieces. -/
def vW (L : List (List (List UInt8))) (s : List (List UInt8)) (a d : Nat) (_ : Int) : Bool × List (List UInt8) := (true, s ++ [(L[a]?.getD [])[d]?.getD []])
theorem Span.hd {l : List (List Int)} {ks : List Int} {a e : Nat} (h : Span l ks a e) (hlt : a < e) : ∃ (hl : a < l.length) (m : Nat) (ks' : List Int), ks = (a : Int) :: ks' ∧ Span l l[a] (a + 1) m ∧ Span l ks' m e := by
  cases h with
  | nil => omega
  | cons _ m _ ks' hl h1 h2 => exact ⟨hl, m, ks', rfl, h1, h2⟩
theorem Span.emp {l : List (List Int)} {ks : List Int} {a : Nat} (h : Span l ks a a) : ks = [] := by
  cases h with
  | nil => rfl
  | cons _ m _ ks' hl h1 h2 => have := h1.le; have := h2.le; omega
theorem weave_walk (L : List (List (List UInt8))) {l : List (List Int)} {ks : List Int} {a e : Nat} (h : Span l ks a e) :
    ∀ (f b d : Nat) (s : List (List UInt8)), l.length < a + f → ∃ Q, iterS (walkS (vW L) (lens l) f) (fun s d n => vW L s b d n) ks.length d (a : Int) s = ((e : Int), s ++ Q) ∧ Q.flatten = wF (wT L l f) (L[b]?.getD []) d ks ∧ Q.length ≤ 2 * (e - a) := by
  induction h with
  | nil a => intro f b d s hf; exact ⟨[], by simp [iterS], by simp [wF], by simp⟩
  | cons a m e ks hlt h1 h2 ih1 ih2 =>
    intro f b d s hf
    obtain ⟨f', rfl⟩ : ∃ f', f = f' + 1 := ⟨f - 1, by omega⟩
    have l1 := h1.le
    have l2 := h2.le
    obtain ⟨Q1, e1, e2, e3⟩ := ih1 f' a 0 (s ++ [(L[a]?.getD [])[0]?.getD []]) (by omega)
    have hw : walkS (vW L) (lens l) (f' + 1) s (a : Int) = ((m : Int), s ++ [(L[a]?.getD [])[0]?.getD []] ++ Q1) := by
      rw [walkS_in _ _ _ _ _ (by simpa [lens] using hlt)]
      have hc : ((lens l)[a]'(by simpa [lens] using hlt)).toNat = l[a].length := by simp [lens]
      rw [hc]
      simp only [vW, if_true]
      push_cast at e1
      exact e1
    obtain ⟨Q2, g1, g2, g3⟩ := ih2 (f' + 1) b (d + 1) (s ++ [(L[a]?.getD [])[0]?.getD []] ++ Q1 ++ [(L[b]?.getD [])[d + 1]?.getD []]) (by omega)
    refine ⟨[(L[a]?.getD [])[0]?.getD []] ++ Q1 ++ [(L[b]?.getD [])[d + 1]?.getD []] ++ Q2, ?_, ?_, ?_⟩
    · rw [List.length_cons, iterS, hw]
      have hn : ¬ (m : Int) < 0 := by omega
      simp only [if_neg hn, vW, if_true]
      simp only [vW] at g1
      rw [g1]
      simp
    · rw [wF, Int.toNat_natCast, wT, List.getElem?_eq_getElem hlt, ← g2]
      simp only [List.flatten_append, e2]
      simp
    · simp only [List.length_append, List.length_singleton]; omega
theorem weave_all (L : List (List (List UInt8))) {l : List (List Int)} (hp : preB l = true) : ∃ P, walkS (vW L) (lens l) (l.length + 1) [] 0 = ((l.length : Int), P) ∧ P.flatten = wT L l (l.length + 1) 0 ∧ P.length ≤ 1200 ∧ P ≠ [] := by
  obtain ⟨hlt, m, ks', h0, h1, h2⟩ : ∃ (hl : 0 < l.length) (m : Nat) (ks' : List Int), [(0 : Int)] = ((0 : Nat) : Int) :: ks' ∧ Span l l[0] (0 + 1) m ∧ Span l ks' m l.length := by
    have := span_pre hp
    cases this with
    | cons _ m _ ks' hl h1 h2 => exact ⟨hl, m, [], rfl, h1, h2⟩
  have hk : ks' = [] := by simpa using h0.symm
  subst hk
  have hm : m = l.length := by cases h2; rfl
  subst hm
  have hlen := ((preB_iff _).1 hp).2.1
  obtain ⟨Q, e1, e2, e3⟩ := weave_walk L h1 l.length 0 0 [(L[0]?.getD [])[0]?.getD []] (by omega)
  refine ⟨[(L[0]?.getD [])[0]?.getD []] ++ Q, ?_, ?_, ?_, by simp⟩
  · have := walkS_in (vW L) (lens l) l.length [] 0 (by simpa [lens] using hlt)
    rw [show ((0 : Nat) : Int) = 0 from rfl] at this
    rw [this]
    have hc : ((lens l)[0]'(by simpa [lens] using hlt)).toNat = l[0].length := by simp [lens]
    rw [hc]
    simp only [vW, if_true, List.nil_append]
    simp only [vW] at e1
    simpa using e1
  · rw [wT, List.getElem?_eq_getElem hlt, List.flatten_append, e2]; simp
  · simp only [List.length_append, List.length_singleton]; omega
/-! ### A node has one parent -/
theorem Span.ends {l : List (List Int)} {ks : List Int} {a e : Nat} (h : Span l ks a e) : ∀ (k : Int), k ∈ ks → ∀ i : Nat, a ≤ i → (i : Int) < k → ∃ (hi : i < l.length) (m : Nat), Span l l[i] (i + 1) m ∧ (m : Int) ≤ k := by
  induction h with
  | nil a => intro k hk; simp at hk
  | cons a m e ks hlt h1 h2 ih1 ih2 =>
    intro k hk i hi hik
    rcases List.mem_cons.1 hk with rfl | hk
    · omega
    · have hr := h2.roots k hk
      by_cases him : i < m
      · by_cases hia : i = a
        · subst hia; exact ⟨hlt, m, h1, hr.1⟩
        · obtain ⟨hl, m', hs, hle⟩ := h1.sub i (by omega) him
          exact ⟨hl, m', hs, by omega⟩
      · exact ih2 k hk i (by omega) hik
theorem span_uniq {l : List (List Int)} {a e e' : Nat} (ha : a < l.length) (h : Span l l[a] (a + 1) e) (h' : Span l l[a] (a + 1) e') : e = e' := by
  have h1 := span_pend (f := l.length + 1) ha h (by omega)
  have h2 := span_pend (f := l.length + 1) ha h' (by omega)
  omega
theorem one_parent {l : List (List Int)} (hp : preB l = true) {i j : Nat} (hi : i < l.length) (hj : j < l.length) {k : Int} (hki : k ∈ l[i]) (hkj : k ∈ l[j]) : i = j := by
  have key : ∀ i j (hi : i < l.length) (hj : j < l.length), k ∈ l[i] → k ∈ l[j] → ¬ j < i := by
    intro i j hi hj hki hkj hlt
    obtain ⟨ei, hsi, _, _⟩ := span_at hp i hi
    obtain ⟨ej, hsj, _, _⟩ := span_at hp j hj
    have hik := hsi.roots k hki
    obtain ⟨_, m, hs, hm⟩ := hsj.ends k hkj i (by omega) (by omega)
    have := span_uniq hi hsi hs
    omega
  by_cases h1 : i < j
  · exact absurd h1 (key j i hj hi hkj hki)
  · by_cases h2 : j < i
    · exact absurd h2 (key i j hi hj hki hkj)
    · omega
/-! ### Patterns -/
/-- The texts of a node, not asked whether it is a '::' or the pair below one. -/
def pTexts (nt : Int → List UInt8) (n : PN) : List (List UInt8) :=
  if n.kind = 2 then [n.s.toList]
  else if n.kind = 3 then [nt n.n]
  else if n.kind = 4 then (if n.kids.length = 0 then [n.s.toList] else [[40] ++ n.s.toList ++ [32], [41]])
  else if n.kind = 5 then [[40], [44, 32], [41]]
  else if n.kind = 6 then [[40, 41]]
  else [[95]]
/-- Below one of the first t nodes that are '::'. -/
def consK (q : List PN) (t : Nat) (i : Nat) : Bool := (q.take t).any fun x => isConsB x && decide (x.kids.head? = some (i : Int))
/-- The texts when the first t nodes have been asked. -/
def patL (nt : Int → List UInt8) (q : List PN) (t : Nat) : List (List (List UInt8)) :=
  (List.range q.length).map fun i => if consK q t i = true then [[40], [32, 58, 58, 32], [41]] else match q[i]? with
    | some n => if isConsB n = true ∧ i < t then [[], []] else pTexts nt n
    | none => []
/-- The model's text of the pattern that begins at a place; c: the pair below a '::'. -/
def patU (nt : Int → List UInt8) (q : List PN) : Nat → Bool → Nat → List UInt8
  | 0, _, _ => []
  | f + 1, c, a => match q[a]? with
    | none => []
    | some n =>
      if n.kind = 1 then [95] else if n.kind = 2 then n.s.toList else if n.kind = 3 then nt n.n else if n.kind = 6 then [40, 41]
      else if n.kind = 5 then ([40] : List UInt8) ++ (patU nt q f false (n.kids[0]?.getD 0).toNat ++ ((if c = true then ([32, 58, 58, 32] : List UInt8) else [44, 32]) ++ (patU nt q f false (n.kids[1]?.getD 0).toNat ++ ([41] : List UInt8))))
      else if n.kids.length = 0 then n.s.toList
      else if n.s.toList = [58, 58] then patU nt q f true (n.kids[0]?.getD 0).toNat
      else ([40] : List UInt8) ++ (n.s.toList ++ (([32] : List UInt8) ++ (patU nt q f false (n.kids[0]?.getD 0).toNat ++ ([41] : List UInt8))))
abbrev patT (nt : Int → List UInt8) (q : List PN) (f a : Nat) : List UInt8 := patU nt q f false a
def patN (nt : Int → List UInt8) (g : Bool → Nat → List UInt8) (c : Bool) (n : PN) : List UInt8 :=
  if n.kind = 1 then [95] else if n.kind = 2 then n.s.toList else if n.kind = 3 then nt n.n else if n.kind = 6 then [40, 41]
  else if n.kind = 5 then ([40] : List UInt8) ++ (g false (n.kids[0]?.getD 0).toNat ++ ((if c = true then ([32, 58, 58, 32] : List UInt8) else [44, 32]) ++ (g false (n.kids[1]?.getD 0).toNat ++ ([41] : List UInt8))))
  else if n.kids.length = 0 then n.s.toList
  else if n.s.toList = [58, 58] then g true (n.kids[0]?.getD 0).toNat
  else ([40] : List UInt8) ++ (n.s.toList ++ (([32] : List UInt8) ++ (g false (n.kids[0]?.getD 0).toNat ++ ([41] : List UInt8))))
theorem patU_at (nt : Int → List UInt8) (q : List PN) (f : Nat) (c : Bool) (a : Nat) (ha : a < q.length) : patU nt q (f + 1) c a = patN nt (patU nt q f) c q[a] := by
  rw [patU, List.getElem?_eq_getElem ha]; rfl
theorem consK_yes {q : List PN} {t i j : Nat} (hj : j < q.length) (hjt : j < t) (hc : isConsB q[j] = true) (hk : q[j].kids.head? = some (i : Int)) : consK q t i = true := by
  unfold consK
  rw [List.any_eq_true]
  refine ⟨q[j], ?_, by rw [hc, hk]; simp⟩
  rw [List.mem_take_iff_getElem]
  exact ⟨j, by omega, rfl⟩
theorem consK_no {q : List PN} {t i : Nat} (h : ∀ j (hj : j < q.length), isConsB q[j] = true → q[j].kids.head? ≠ some (i : Int)) : consK q t i = false := by
  unfold consK
  rw [List.any_eq_false]
  intro x hx
  rw [List.mem_take_iff_getElem] at hx
  obtain ⟨j, hj, rfl⟩ := hx
  have hj2 : j < q.length := by omega
  cases hc : isConsB q[j]
  · simp
  · have := h j hj2 hc
    simp [this]
theorem consK_succ {q : List PN} {t : Nat} (ht : t < q.length) (i : Nat) : consK q (t + 1) i = (consK q t i || (isConsB q[t] && decide (q[t].kids.head? = some (i : Int)))) := by
  unfold consK
  rw [List.take_succ_eq_append_getElem ht, List.any_append]; simp
theorem patL_len (nt : Int → List UInt8) (q : List PN) (t : Nat) : (patL nt q t).length = q.length := by simp [patL]
theorem patL_get (nt : Int → List UInt8) (q : List PN) (t i : Nat) (hi : i < q.length) : (patL nt q t)[i]? = some (if consK q t i = true then [[40], [32, 58, 58, 32], [41]] else if isConsB q[i] = true ∧ i < t then [[], []] else pTexts nt q[i]) := by
  rw [patL, List.getElem?_map, List.getElem?_range hi]
  show some _ = some _
  simp only [List.getElem?_eq_getElem hi]
/-- What a right pattern's nodes are like. -/
structure PatV (q : List PN) : Prop where
  pre : preB (q.map PN.kids) = true
  nd : ∀ i (h : i < q.length), isPNB q[i] = true
  cons : ∀ i (h : i < q.length), isConsB q[i] = true → firstPK q q[i].kids = 5
theorem patV_of {q : List PN} (h : patOkB q = true) : PatV q := by
  rw [pat_ok] at h
  simp only [Bool.and_eq_true] at h
  refine ⟨h.1, fun i hi => ?_, fun i hi hc => ?_⟩
  · have := List.all_eq_true.1 h.2.1 _ (List.getElem_mem hi)
    simp only [rightPB, Bool.and_eq_true] at this
    exact this.1
  · have := List.all_eq_true.1 h.2.1 _ (List.getElem_mem hi)
    simp only [rightPB, Bool.and_eq_true, hc, Bool.not_true, Bool.false_or, decide_eq_true_eq] at this
    exact this.2
theorem PatV.kid {q : List PN} (h : PatV q) {i : Nat} (hi : i < q.length) {k : Int} (hk : k ∈ q[i].kids) : (i : Int) < k ∧ k < (q.length : Int) := by
  have := preB_kids _ h.pre i (by simpa using hi) k (by simpa using hk)
  simpa using this
theorem PatV.par {q : List PN} (h : PatV q) {i j : Nat} (hi : i < q.length) (hj : j < q.length) {k : Int} (hki : k ∈ q[i].kids) (hkj : k ∈ q[j].kids) : i = j :=
  one_parent h.pre (i := i) (j := j) (by simpa using hi) (by simpa using hj) (k := k) (by simpa using hki) (by simpa using hkj)
theorem kids5 {n : PN} (hn : isPNB n = true) (h1 : n.kind = 5) : n.kids.length = 2 := by
  unfold isPNB pnodeB at hn
  rw [h1] at hn; simp at hn; omega
theorem kids36 {n : PN} (hn : isPNB n = true) (h1 : n.kind = 1 ∨ n.kind = 2 ∨ n.kind = 3 ∨ n.kind = 6) : n.kids.length = 0 := by
  unfold isPNB pnodeB at hn
  rcases h1 with h1 | h1 | h1 | h1
  all_goals
    rw [h1] at hn
    simp at hn
    first | (simp [hn.2.2]; done) | (simp [hn.2.2.2]; done)
theorem kids4 {n : PN} (hn : isPNB n = true) (h1 : n.kind = 4) : n.kids.length ≤ 1 := by
  unfold isPNB pnodeB at hn
  rw [h1] at hn
  simp at hn
  have := hn.2
  unfold conOkB at this
  split at this
  · simp at this; omega
  · split at this
    · simp at this; simp [this]
    · simp at this; omega
theorem pk_range {n : PN} (hn : isPNB n = true) : n.kind = 1 ∨ n.kind = 2 ∨ n.kind = 3 ∨ n.kind = 4 ∨ n.kind = 5 ∨ n.kind = 6 := by
  unfold isPNB pnodeB at hn
  repeat' (split at hn)
  all_goals first | omega | (cases hn)
theorem PatV.texts {q : List PN} (h : PatV q) (nt : Int → List UInt8) (t i : Nat) (hi : i < q.length) : ∃ T, (patL nt q t)[i]? = some T ∧ T.length = q[i].kids.length + 1 := by
  rw [patL_get nt q t i hi]
  refine ⟨_, rfl, ?_⟩
  have hv := h.nd i hi
  by_cases hc : consK q t i = true
  · rw [if_pos hc]
    unfold consK at hc
    rw [List.any_eq_true] at hc
    obtain ⟨x, hx, hc⟩ := hc
    rw [List.mem_take_iff_getElem] at hx
    obtain ⟨j, hj, rfl⟩ := hx
    simp only [Bool.and_eq_true, decide_eq_true_eq] at hc
    have hf := h.cons j (by omega) hc.1
    cases hk : q[j].kids with
    | nil => rw [hk] at hc; simp at hc
    | cons k ks =>
      rw [hk] at hc hf
      simp at hc
      obtain ⟨_, rfl⟩ := hc
      simp only [firstPK, Int.toNat_natCast, List.getElem?_eq_getElem hi] at hf
      have := kids5 hv hf
      simp [this]
  · rw [if_neg hc]
    by_cases hb : isConsB q[i] = true ∧ i < t
    · rw [if_pos hb]
      have := isPN_cons _ hv hb.1
      simp [this]
    · rw [if_neg hb]
      unfold pTexts
      rcases pk_range hv with hk | hk | hk | hk | hk | hk
      · have := kids36 hv (by omega); simp [hk, this]
      · have := kids36 hv (by omega); simp [hk, this]
      · have := kids36 hv (by omega); simp [hk, this]
      · have := kids4 hv hk
        by_cases h0 : q[i].kids.length = 0
        · simp [hk, h0]
        · have h1 : q[i].kids.length = 1 := by omega
          simp [hk, h1]
      · have := kids5 hv hk; simp [hk, this]
      · have := kids36 hv (by omega); simp [hk, this]
/-- Both ways give one text. -/
theorem PatV.text {q : List PN} (h : PatV q) (nt : Int → List UInt8) : ∀ (f a : Nat), a < q.length → q.length < a + f → (∀ j (hj : j < q.length), isConsB q[j] = true → q[j].kids.head? ≠ some (a : Int)) → wT (patL nt q q.length) (q.map PN.kids) f a = patT nt q f a := by
  intro f
  induction f using Nat.strongRecOn with
  | _ f ih =>
    intro a ha hf hno
    obtain ⟨f', rfl⟩ : ∃ f', f = f' + 1 := ⟨f - 1, by omega⟩
    have hv := h.nd a ha
    have hck := consK_no (t := q.length) hno
    have hkid := fun k (hk : k ∈ q[a].kids) => h.kid ha hk
    have hT : (patL nt q q.length)[a]? = some (if isConsB q[a] = true ∧ a < q.length then [[], []] else pTexts nt q[a]) := by
      rw [patL_get nt q q.length a ha, hck]; simp
    -- a kid of a node that is no '::'
    have hsub : ∀ (k : Int), k ∈ q[a].kids → ¬ isConsB q[a] = true → wT (patL nt q q.length) (q.map PN.kids) f' k.toNat = patT nt q f' k.toNat := by
      intro k hk hnc
      obtain ⟨k1, k2⟩ := hkid k hk
      refine ih f' (by omega) k.toNat (by omega) (by omega) fun j hj hc hh => ?_
      have hkj : k ∈ q[j].kids := by
        cases hq : q[j].kids with
        | nil => rw [hq] at hh; simp at hh
        | cons y ys =>
          rw [hq] at hh
          simp at hh
          have : y = k := by omega
          simp [this]
      have := h.par ha hj hk hkj
      subst this
      exact hnc hc
    rw [wT, patT, patU, hT, List.getElem?_map, List.getElem?_eq_getElem ha]
    simp only [Option.getD_some, Option.map_some]
    by_cases hc : isConsB q[a] = true
    · rw [if_pos ⟨hc, ha⟩]
      have hl := isPN_cons _ hv hc
      have hf5 := h.cons a ha hc
      obtain ⟨k, hk⟩ := List.length_eq_one_iff.1 hl
      have hkm : k ∈ q[a].kids := by rw [hk]; simp
      obtain ⟨k1, k2⟩ := hkid k hkm
      obtain ⟨kn, rfl⟩ : ∃ kn : Nat, k = kn := ⟨k.toNat, by omega⟩
      have hkn : kn < q.length := by omega
      simp only [isConsB, Bool.and_eq_true, decide_eq_true_eq] at hc
      have hc4 := hc.1
      have hcs := hc.2
      rw [hk] at hf5
      simp only [firstPK, Int.toNat_natCast, List.getElem?_eq_getElem hkn] at hf5
      have hl2 := kids5 (h.nd kn hkn) hf5
      obtain ⟨x, y, hxy⟩ : ∃ x y, q[kn].kids = [x, y] := by
        match hq : q[kn].kids with
        | [] => rw [hq] at hl2; simp at hl2
        | [_] => rw [hq] at hl2; simp at hl2
        | [x, y] => exact ⟨x, y, rfl⟩
        | _ :: _ :: _ :: _ => rw [hq] at hl2; simp at hl2
      obtain ⟨f'', rfl⟩ : ∃ f'', f' = f'' + 1 := ⟨f' - 1, by omega⟩
      have hck2 : consK q q.length kn = true := consK_yes ha ha (by simp [isConsB, hc4, hcs]) (by rw [hk]; rfl)
      have hsub2 : ∀ (z : Int), z ∈ q[kn].kids → wT (patL nt q q.length) (q.map PN.kids) f'' z.toNat = patT nt q f'' z.toNat := by
        intro z hz
        obtain ⟨z1, z2⟩ := h.kid hkn hz
        refine ih f'' (by omega) z.toNat (by omega) (by omega) fun j hj hcj hh => ?_
        have hzj : z ∈ q[j].kids := by
          cases hq : q[j].kids with
          | nil => rw [hq] at hh; simp at hh
          | cons u us =>
            rw [hq] at hh
            simp at hh
            have : u = z := by omega
            simp [this]
        have := h.par hkn hj hz hzj
        subst this
        simp only [isConsB, Bool.and_eq_true, decide_eq_true_eq] at hcj
        omega
      have e1 := hsub2 x (by rw [hxy]; simp)
      have e2 := hsub2 y (by rw [hxy]; simp)
      have hT2 : (patL nt q q.length)[kn]? = some [[40], [32, 58, 58, 32], [41]] := by
        rw [patL_get nt q q.length kn hkn, hck2]; simp
      have hpair : wT (patL nt q q.length) (q.map PN.kids) (f'' + 1) kn = [40] ++ (patT nt q f'' x.toNat ++ ([32, 58, 58, 32] ++ (patT nt q f'' y.toNat ++ [41]))) := by
        rw [wT, hT2, List.getElem?_map, List.getElem?_eq_getElem hkn]
        simp only [Option.getD_some, Option.map_some, hxy, wF, e1, e2]
        simp
      rw [hk]
      simp only [wF, Int.toNat_natCast, hpair]
      simp [hc4, hcs, patU, List.getElem?_eq_getElem hkn, hxy, hf5]
    · rw [if_neg (fun hh => hc hh.1)]
      unfold pTexts
      rcases pk_range hv with hk | hk | hk | hk | hk | hk
      · have h0 := kids36 hv (by omega)
        rw [List.eq_nil_of_length_eq_zero h0]; simp [hk, wF]
      · have h0 := kids36 hv (by omega)
        rw [List.eq_nil_of_length_eq_zero h0]; simp [hk, wF]
      · have h0 := kids36 hv (by omega)
        rw [List.eq_nil_of_length_eq_zero h0]; simp [hk, wF]
      · have h1 := kids4 hv hk
        by_cases h0 : q[a].kids.length = 0
        · rw [List.eq_nil_of_length_eq_zero h0]; simp [hk, wF]
        · have hl : q[a].kids.length = 1 := by omega
          obtain ⟨k, hkk⟩ := List.length_eq_one_iff.1 hl
          have := hsub k (by rw [hkk]; simp) hc
          have hns : ¬ q[a].s.toList = [58, 58] := fun hs => hc (by simp [isConsB, hk, hs])
          rw [hkk]
          simp [hk, wF, this, hns]
      · have hl := kids5 hv hk
        obtain ⟨x, y, hxy⟩ : ∃ x y, q[a].kids = [x, y] := by
          match hq : q[a].kids with
          | [] => rw [hq] at hl; simp at hl
          | [_] => rw [hq] at hl; simp at hl
          | [x, y] => exact ⟨x, y, rfl⟩
          | _ :: _ :: _ :: _ => rw [hq] at hl; simp at hl
        have e1 := hsub x (by rw [hxy]; simp) hc
        have e2 := hsub y (by rw [hxy]; simp) hc
        rw [hxy]
        simp [hk, wF, e1, e2]
      · have h0 := kids36 hv (by omega)
        rw [List.eq_nil_of_length_eq_zero h0]; simp [hk, wF]
/-- It isn't too long. -/
theorem pat_size {q : List PN} (nt : Int → List UInt8) (hnt : ∀ v, -4611686018427387904 ≤ v → v ≤ 4611686018427387903 → (nt v).length ≤ 24) (hv : PatV q) : ∀ (f a : Nat) (c : Bool), a < q.length → (patU nt q f c a).length ≤ 24 * (endN (q.map PN.kids) a - a) := by
  intro f
  induction f with
  | zero => intro a c ha; simp [patU]
  | succ f ih =>
    intro a c ha
    have hn := hv.nd a ha
    obtain ⟨e, hs, h1, h2⟩ := span_at hv.pre a (by simpa using ha)
    have he := endN_of (by simpa using ha) hs
    rw [List.getElem_map] at hs
    have hns : q[a].s.toList.length ≤ 12 := by
      rcases pk_range hn with hk | hk | hk | hk | hk | hk
      all_goals unfold isPNB pnodeB at hn; rw [hk] at hn; simp at hn
      · simp [hn.2.1]
      · have := hn.2.1
        unfold nameB wordB lenB at this
        simp only [Bool.and_eq_true, decide_eq_true_eq] at this
        rw [pr_toList]; exact this.1.1.2
      · simp [hn.2.2.1]
      · have := hn.2
        unfold conOkB at this
        split at this
        · rename_i hh; rw [hh]; simp
        · split at this
          · rename_i hh; rcases hh with hh | hh | hh <;> rw [hh] <;> simp
          · simp only [Bool.and_eq_true] at this
            have := this.1
            unfold conB wordB lenB at this
            simp only [Bool.and_eq_true, decide_eq_true_eq] at this
            rw [pr_toList]; exact this.1.1.2
      · simp [hn.2.1]
      · simp [hn.2.1]
    rw [he, patU, List.getElem?_eq_getElem ha]
    simp only
    rcases pk_range hn with hk | hk | hk | hk | hk | hk
    · simp [hk]; omega
    · simp only [hk]; simp; omega
    · have hr : -4611686018427387904 ≤ q[a].n ∧ q[a].n ≤ 4611686018427387903 := by
        unfold isPNB pnodeB at hn; rw [hk] at hn; simp at hn; omega
      have := hnt q[a].n hr.1 hr.2
      simp [hk]; omega
    · have hl := kids4 hn hk
      by_cases h0 : q[a].kids.length = 0
      · simp [hk, h0]; omega
      · obtain ⟨k, hkk⟩ := List.length_eq_one_iff.1 (show q[a].kids.length = 1 by omega)
        have hend : ∀ (l : List (List Int)) (k : Int) (a e : Nat), Span l [k] a e → ∃ hl : a < l.length, k = (a : Int) ∧ Span l l[a] (a + 1) e := by
          intro l k a e h
          cases h with
          | cons _ m _ _ hl h1 h2 => cases h2; exact ⟨hl, rfl, h1⟩
        rw [hkk] at hs
        obtain ⟨hkl, rfl, g2⟩ := hend _ _ _ _ hs
        have hkl' : a + 1 < q.length := by simpa using hkl
        have hen := endN_of hkl g2
        have i1 := ih (a + 1) true hkl'
        have i2 := ih (a + 1) false hkl'
        rw [hen] at i1 i2
        have ht : ((([((a + 1 : Nat) : Int)] : List Int)[0]?).getD 0).toNat = a + 1 := by simp
        have hg2 := g2.le
        simp only [hk, hkk, ht]
        by_cases hs : q[a].s.toList = [58, 58]
        · simp [hs]; omega
        · simp [hs]; omega
    · have hl := kids5 hn hk
      have hend : ∀ (l : List (List Int)) (k j : Int) (a e : Nat), Span l [k, j] a e → ∃ (hl : a < l.length) (m : Nat) (hm : m < l.length), k = (a : Int) ∧ j = (m : Int) ∧ Span l l[a] (a + 1) m ∧ Span l l[m] (m + 1) e := by
        intro l k j a e h
        cases h with
        | cons _ m _ _ hl h1 h2 =>
          cases h2 with
          | cons _ m2 _ _ hl2 h3 h4 => cases h4; exact ⟨hl, m, hl2, rfl, rfl, h1, h3⟩
      obtain ⟨x, y, hxy⟩ : ∃ x y, q[a].kids = [x, y] := by
        match hq : q[a].kids with
        | [] => rw [hq] at hl; simp at hl
        | [_] => rw [hq] at hl; simp at hl
        | [x, y] => exact ⟨x, y, rfl⟩
        | _ :: _ :: _ :: _ => rw [hq] at hl; simp at hl
      rw [hxy] at hs
      obtain ⟨hkl, m, hml, rfl, rfl, g1, g2⟩ := hend _ _ _ _ _ hs
      have i1 := ih (a + 1) false (by simpa using hkl)
      have i2 := ih m false (by simpa using hml)
      rw [endN_of hkl g1] at i1
      rw [endN_of hml g2] at i2
      have t1 : ((([((a + 1 : Nat) : Int), (m : Int)] : List Int)[0]?).getD 0).toNat = a + 1 := by simp
      have t2 : ((([((a + 1 : Nat) : Int), (m : Int)] : List Int)[1]?).getD 0).toNat = m := by simp
      have l1 := g1.le
      have l2 := g2.le
      simp only [hk, hxy, t1, t2]
      cases c <;> simp <;> omega
    · simp [hk]; omega
end Go.Proofs.YtcllifmaokldbaaDoor
