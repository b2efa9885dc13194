/- Numbers put into an ascending list; what Compact leaves of what Sort gives. -/
import Derived.Lib.SlicesCompact
namespace Go.Proofs.Ytciohamonmmciaa
set_option linter.unusedVariables false
def putA (n : Int) (s : List Int × Bool) (x : Int) : List Int × Bool := if s.2 = false ∧ n < x then (s.1 ++ [n, x], true) else (s.1 ++ [x], s.2)
/-- Where the putting loop stands behind k numbers. -/
def putS (n : Int) (l : List Int) (k : Nat) : List Int × Bool := (l.take k).foldl (putA n) ([], false)
def putL (l : List Int) (n : Int) : List Int := if n ∈ l then l else if (putS n l l.length).2 = true then (putS n l l.length).1 else (putS n l l.length).1 ++ [n]
theorem putS_zero (n : Int) (l : List Int) : putS n l 0 = ([], false) := rfl
theorem putS_succ (n : Int) (l : List Int) (k : Nat) (h : k < l.length) : putS n l (k + 1) = putA n (putS n l k) l[k] := by
  unfold putS; rw [List.take_succ_eq_append_getElem h, List.foldl_append]; rfl
theorem putS_len (n : Int) (l : List Int) (k : Nat) (h : k ≤ l.length) : (putS n l k).1.length = k + (if (putS n l k).2 = true then 1 else 0) := by
  induction k with
  | zero => rfl
  | succ k ih =>
    have ih := ih (by omega)
    rw [putS_succ n l k (by omega)]
    unfold putA
    split
    · next h => rw [h.1] at ih; simp at ih ⊢; omega
    · simp; omega
theorem putL_len (l : List Int) (n : Int) : (putL l n).length ≤ l.length + 1 := by
  unfold putL
  have := putS_len n l l.length (Nat.le_refl _)
  split
  · omega
  · split
    · next h => rw [if_pos h] at this; omega
    · next h => rw [if_neg h] at this; simp; omega
/-- Ascending. -/
abbrev Asc (l : List Int) : Prop := l.Pairwise (· < ·)
theorem asc_snoc (l : List Int) (x : Int) : Asc (l ++ [x]) ↔ Asc l ∧ ∀ y ∈ l, y < x := by
  unfold Asc; rw [List.pairwise_append]; simp
theorem asc_take (l : List Int) (k : Nat) (hk : k < l.length) (h : Asc l) : ∀ y ∈ l.take k, y < l[k] := by
  have : Asc (l.take k ++ [l[k]]) := by rw [← List.take_succ_eq_append_getElem hk]; exact h.sublist (List.take_sublist _ _)
  exact ((asc_snoc _ _).1 this).2
theorem putS_inv (n : Int) (l : List Int) (h : Asc l) (hn : n ∉ l) (k : Nat) (hk : k ≤ l.length) :
    Asc (putS n l k).1 ∧ (∀ y, y ∈ (putS n l k).1 ↔ (y ∈ l.take k ∨ ((putS n l k).2 = true ∧ y = n))) ∧ ((putS n l k).2 = false → ∀ y ∈ l.take k, y < n) ∧ ((putS n l k).2 = true → ∃ z ∈ l.take k, n < z) := by
  induction k with
  | zero => simp [putS_zero]
  | succ k ih =>
    obtain ⟨i1, i2, i3, i4⟩ := ih (by omega)
    have hk' : k < l.length := by omega
    have ht := asc_take l k hk' h
    have hne : l[k] ≠ n := fun e => hn (e ▸ List.getElem_mem hk')
    rw [putS_succ n l k hk', List.take_succ_eq_append_getElem hk']
    generalize putS n l k = s at *
    generalize l[k] = x at *
    generalize l.take k = t at *
    obtain ⟨s, d⟩ := s
    unfold putA
    simp only at *
    cases d
    · have i3' := i3 rfl
      have hst : ∀ y, y ∈ s ↔ y ∈ t := fun y => by rw [i2]; simp
      by_cases hx : n < x
      · rw [if_pos ⟨rfl, hx⟩]
        refine ⟨?_, fun y => ?_, fun e => by simp at e, fun _ => ⟨x, by simp, hx⟩⟩
        · show Asc (s ++ [n, x])
          rw [show s ++ [n, x] = (s ++ [n]) ++ [x] from by simp, asc_snoc, asc_snoc]
          refine ⟨⟨i1, fun y hy => i3' y ((hst y).1 hy)⟩, fun y hy => ?_⟩
          rcases List.mem_append.1 hy with hy | hy
          · exact ht y ((hst y).1 hy)
          · have : y = n := by simpa using hy
            omega
        · simp only [List.mem_append, hst, List.mem_cons, List.not_mem_nil, or_false, true_and]; constructor
          · rintro (h | h | h) <;> simp [h]
          · rintro ((h | h) | h) <;> simp [h]
      · rw [if_neg (by simp [hx])]
        refine ⟨(asc_snoc _ _).2 ⟨i1, fun y hy => ht y ((hst y).1 hy)⟩, fun y => ?_, fun _ y hy => ?_, fun e => by simp at e⟩
        · simp [hst]
        · rcases List.mem_append.1 hy with hy | hy
          · exact i3' y hy
          · have : y = x := by simpa using hy
            omega
    · obtain ⟨z, hz, hnz⟩ := i4 rfl
      have hzx := ht z hz
      rw [if_neg (by simp)]
      refine ⟨(asc_snoc _ _).2 ⟨i1, fun y hy => ?_⟩, fun y => ?_, fun e => by simp at e, fun _ => ⟨z, by simp [hz], hnz⟩⟩
      · rcases (i2 y).1 hy with hy | ⟨_, rfl⟩
        · exact ht y hy
        · omega
      · simp only [List.mem_append, i2, List.mem_cons, List.not_mem_nil, or_false, true_and]; constructor
        · rintro ((h | h) | h) <;> simp [h]
        · rintro ((h | h) | h) <;> simp [h]
theorem putL_asc (l : List Int) (n : Int) (h : Asc l) : Asc (putL l n) ∧ ∀ y, y ∈ putL l n ↔ (y ∈ l ∨ y = n) := by
  unfold putL
  by_cases hn : n ∈ l
  · rw [if_pos hn]; exact ⟨h, fun y => ⟨Or.inl, fun h => by rcases h with h | rfl <;> assumption⟩⟩
  · rw [if_neg hn]
    obtain ⟨i1, i2, i3, i4⟩ := putS_inv n l h hn l.length (Nat.le_refl _)
    rw [List.take_length] at i2 i3 i4
    split
    · next e => exact ⟨i1, fun y => by rw [i2]; simp [e]⟩
    · next e =>
      have e' : (putS n l l.length).2 = false := by simpa using e
      have i3 := i3 e'
      refine ⟨(asc_snoc _ _).2 ⟨i1, fun y hy => ?_⟩, fun y => ?_⟩
      · rcases (i2 y).1 hy with hy | ⟨h, _⟩
        · exact i3 y hy
        · rw [e'] at h; simp at h
      · simp [i2, e']
/-- Two ascending lists with the same members are one. -/
theorem asc_eq : ∀ (l m : List Int), Asc l → Asc m → (∀ y, y ∈ l ↔ y ∈ m) → l = m
  | [], [], _, _, _ => rfl
  | [], y :: m, _, _, h => absurd ((h y).2 (by simp)) (by simp)
  | x :: l, [], _, _, h => absurd ((h x).1 (by simp)) (by simp)
  | x :: l, y :: m, hl, hm, h => by
    obtain ⟨h1, h2⟩ := List.pairwise_cons.1 hl
    obtain ⟨h3, h4⟩ := List.pairwise_cons.1 hm
    have e : x = y := by
      rcases List.mem_cons.1 ((h x).1 (by simp)) with e | hx
      · exact e
      · rcases List.mem_cons.1 ((h y).2 (by simp)) with e | hy
        · exact e.symm
        · have := h3 x hx; have := h1 y hy; omega
    subst e
    congr 1
    refine asc_eq l m h2 h4 fun y => ⟨fun hy => ?_, fun hy => ?_⟩
    · rcases List.mem_cons.1 ((h y).1 (by simp [hy])) with rfl | h'
      · have := h1 _ hy; omega
      · exact h'
    · rcases List.mem_cons.1 ((h y).2 (by simp [hy])) with rfl | h'
      · have := h3 _ hy; omega
      · exact h'
/-! ### What Compact leaves of what Sort gives -/
open Go.Lib in
theorem compact_inv (d : Array Int) (hs : ∀ i j, i < j → j < d.size → d[i]! ≤ d[j]!) (m : Nat) (hm : m ≤ d.size) :
    Asc (compactUpTo d m) ∧ (∀ y, y ∈ compactUpTo d m ↔ ∃ j, j < m ∧ d[j]! = y) := by
  induction m with
  | zero => simp [compactUpTo]
  | succ m ih =>
    obtain ⟨h1, h2⟩ := ih (by omega)
    rw [compactUpTo_succ]
    by_cases hk : keeps d m = true
    · rw [if_pos hk]
      refine ⟨(asc_snoc _ _).2 ⟨h1, fun y hy => ?_⟩, fun y => ?_⟩
      · obtain ⟨j, hj, rfl⟩ := (h2 y).1 hy
        have hne : d[m]! ≠ d[m - 1]! := by
          simp only [keeps, decide_eq_true_eq] at hk
          rcases hk with h | h
          · omega
          · exact h
        have a := hs (m - 1) m (by omega) (by omega)
        by_cases e : j = m - 1
        · subst e; omega
        · have b := hs j (m - 1) (by omega) (by omega); omega
      · rw [List.mem_append, h2]; simp only [List.mem_cons, List.not_mem_nil, or_false]
        constructor
        · rintro (⟨j, hj, e⟩ | e)
          · exact ⟨j, by omega, e⟩
          · exact ⟨m, by omega, e.symm⟩
        · rintro ⟨j, hj, e⟩
          by_cases h : j = m
          · subst h; exact .inr e.symm
          · exact .inl ⟨j, by omega, e⟩
    · rw [if_neg hk, List.append_nil]
      refine ⟨h1, fun y => ?_⟩
      rw [h2]
      have hk' : m ≠ 0 ∧ d[m]! = d[m - 1]! := by simpa [keeps] using hk
      constructor
      · rintro ⟨j, hj, e⟩; exact ⟨j, by omega, e⟩
      · rintro ⟨j, hj, e⟩
        by_cases h : j = m
        · subst h; exact ⟨j - 1, by omega, by rw [← hk'.2]; exact e⟩
        · exact ⟨j, by omega, e⟩
theorem compact_sort (l : List Int) : Asc (Go.Lib.compact (l.mergeSort fun x y => decide (x ≤ y))) ∧ ∀ y, y ∈ Go.Lib.compact (l.mergeSort fun x y => decide (x ≤ y)) ↔ y ∈ l := by
  have hp : (l.mergeSort fun x y => decide (x ≤ y)).Pairwise fun a b => decide (a ≤ b) = true := List.pairwise_mergeSort (by simp; intros; omega) (by simp; intros; omega) l
  have hm : ∀ y, y ∈ (l.mergeSort fun x y => decide (x ≤ y)) ↔ y ∈ l := fun y => List.mem_mergeSort
  generalize (l.mergeSort fun x y => decide (x ≤ y)) = s at *
  have hs : ∀ i j, i < j → j < s.toArray.size → s.toArray[i]! ≤ s.toArray[j]! := by
    intro i j hij hj
    have hj' : j < s.length := by simpa using hj
    have := List.pairwise_iff_getElem.1 hp i j (by omega) hj' hij
    rw [getElem!_pos s.toArray i (by simp; omega), getElem!_pos s.toArray j hj]
    simpa using this
  obtain ⟨h1, h2⟩ := compact_inv s.toArray hs s.length (by simp)
  refine ⟨h1, fun y => ?_⟩
  unfold Go.Lib.compact
  rw [h2, ← hm]
  constructor
  · rintro ⟨j, hj, rfl⟩
    rw [getElem!_pos s.toArray j (by simpa using hj)]
    simp
  · intro hy
    obtain ⟨j, hj, rfl⟩ := List.getElem_of_mem hy
    exact ⟨j, hj, by rw [getElem!_pos s.toArray j (by simpa using hj)]; simp⟩
end Go.Proofs.Ytciohamonmmciaa
