/- Plain mathematics of heaps: valid ones, what one comes to. -/
import Derived.Test.YtdhpmblhejcehaaDoorData
import Derived.Test.YtdhpmblhejcehaaDoorNumMath
namespace Go.Proofs.YtdhpmblhejcehaaDoor
set_option linter.unusedVariables false
open Go.RowKit

/-- A value, in a heap of m cells. -/
def valB (m : Int) (v : Vl) : Bool :=
  if v.kind = 1 then decide (W v.n = v.n) && decide (v.s.toList = [])
  else if v.kind = 2 then decide (v.n = 0)
  else if v.kind = 3 ∨ v.kind = 7 then decide (v.n = 0) && decide (v.s.toList = [])
  else if v.kind = 4 ∨ v.kind = 5 then decide (v.n = 0) && !decide (v.s.toList = [])
  else if v.kind = 6 then decide (0 ≤ v.n) && (decide (v.n < m) && decide (v.s.toList = []))
  else false
/-- The zero value of values. -/
def noneB (v : Vl) : Bool := decide (v.kind = 0) && (decide (v.n = 0) && decide (v.s.toList = []))
/-- What may lie in B, by the cell's kind. -/
def cellBB (m : Int) (k : Int) (v : Vl) : Bool := if k = 2 ∨ k = 6 then valB m v else noneB v
/-- A cell. -/
def cellB (m : Int) (c : Ce) : Bool :=
  decide (1 ≤ c.kind) && (decide (c.kind ≤ 6) && (valB m c.a && (cellBB m c.kind c.b && ((decide (c.kind = 3 ∨ c.kind = 4) || decide (c.n = 0)) && (decide (c.kind = 1) || decide (c.s.toList = []))))))
/-- A valid heap and its roots. -/
def heapB (h : List Ce) (r : List Vl) : Bool := decide (h.length ≤ 4000) && (h.all (cellB h.length) && r.all (valB h.length))
/-- What one comes to: from the roots, through A and B. -/
inductive Rch (h : List Ce) (r : List Vl) : Nat → Prop
  | root (v : Vl) (hv : v ∈ r) (hk : v.kind = 6) : Rch h r v.n.toNat
  | byA (j : Nat) (hj : Rch h r j) (hl : j < h.length) (hk : h[j].a.kind = 6) : Rch h r h[j].a.n.toNat
  | byB (j : Nat) (hj : Rch h r j) (hl : j < h.length) (hk : h[j].b.kind = 6) : Rch h r h[j].b.n.toNat
noncomputable def rchB (h : List Ce) (r : List Vl) (i : Nat) : Bool := @decide (Rch h r i) (Classical.propDecidable _)
theorem rchB_iff (h : List Ce) (r : List Vl) (i : Nat) : rchB h r i = true ↔ Rch h r i := by unfold rchB; simp
/-- The places among the first k where f holds. -/
def placesL (f : Nat → Bool) : Nat → List Int
  | 0 => []
  | k + 1 => placesL f k ++ (if f k = true then [(k : Int)] else [])
theorem placesL_len (f : Nat → Bool) : ∀ k, (placesL f k).length ≤ k
  | 0 => Nat.le_refl _
  | k + 1 => by have := placesL_len f k; unfold placesL; split <;> simp <;> omega
theorem placesL_I64 (f : Nat → Bool) : ∀ k, k ≤ 1048576 → ∀ x ∈ placesL f k, I64 x
  | 0, _, x, hx => by simp [placesL] at hx
  | k + 1, hk, x, hx => by
    unfold placesL at hx
    rcases List.mem_append.1 hx with hx | hx
    · exact placesL_I64 f k (by omega) x hx
    · split at hx
      · rw [List.mem_singleton] at hx; subst hx; unfold I64; omega
      · simp at hx
theorem placesL_congr {f g : Nat → Bool} : ∀ k, (∀ i, i < k → f i = g i) → placesL f k = placesL g k
  | 0, _ => rfl
  | k + 1, h => by unfold placesL; rw [placesL_congr k (fun i hi => h i (by omega)), h k (by omega)]
noncomputable def resReach (h : List Ce) (r : List Vl) : List Int := if heapB h r = true then placesL (rchB h r) h.length else []
noncomputable def resSweep (h : List Ce) (r : List Vl) : List Int := if heapB h r = true then placesL (fun i => !rchB h r i) h.length else []

/-- Marks that are right so far: only what one comes to, and all the roots. -/
structure Marks (h : List Ce) (r : List Vl) (S : List Bool) : Prop where
  len : S.length = h.length
  only : ∀ i, S[i]? = some true → Rch h r i
/-- From a cell, both ways are marked. -/
def stepOk (h : List Ce) (S : List Bool) (i : Nat) : Prop := ∀ hl : i < h.length, S[i]? = some true → (h[i].a.kind = 6 → S[h[i].a.n.toNat]? = some true) ∧ (h[i].b.kind = 6 → S[h[i].b.n.toNat]? = some true)
/-- Marks that nothing is missing from. -/
theorem marks_all {h : List Ce} {r : List Vl} {S : List Bool} (hb : heapB h r = true) (hm : Marks h r S) (hr : ∀ v ∈ r, v.kind = 6 → S[v.n.toNat]? = some true) (hs : ∀ i, i < h.length → stepOk h S i) :
    ∀ i, i < h.length → S[i]? = some (rchB h r i) := by
  have hall : ∀ i, Rch h r i → S[i]? = some true := by
    intro i hi
    induction hi with
    | root v hv hk => exact hr v hv hk
    | byA j hj hl hk ih => exact ((hs j hl) hl ih).1 hk
    | byB j hj hl hk ih => exact ((hs j hl) hl ih).2 hk
  intro i hi
  cases hx : rchB h r i
  · have hn : ¬ Rch h r i := fun hh => by rw [(rchB_iff h r i).2 hh] at hx; cases hx
    have hl : i < S.length := by rw [hm.len]; exact hi
    rw [List.getElem?_eq_getElem hl]
    cases hS : S[i]
    · rfl
    · exact absurd (hm.only i (by rw [List.getElem?_eq_getElem hl, hS])) hn
  · exact hall i ((rchB_iff h r i).1 hx)
/-- How many are not marked. -/
def unseen (S : List Bool) : Nat := S.countP (fun b => !b)
theorem unseen_set {S : List Bool} {i : Nat} (h : S[i]? = some false) : unseen (S.set i true) + 1 = unseen S := by
  obtain ⟨hl, he⟩ := List.getElem?_eq_some_iff.1 h
  unfold unseen
  induction S generalizing i with
  | nil => simp at hl
  | cons b S ih =>
    cases i with
    | zero => simp at he; subst he; simp
    | succ i =>
      simp only [List.set_cons_succ, List.countP_cons]
      have := ih (i := i) (by simpa using h) (by simpa using hl) (by simpa using he)
      omega
theorem val_cell {m : Int} {v : Vl} (h : valB m v = true) (hk : v.kind = 6) : 0 ≤ v.n ∧ v.n < m ∧ v.s.toList = [] := by
  rw [valB, hk] at h
  simpa using h
theorem heap_len {h : List Ce} {r : List Vl} (hb : heapB h r = true) : h.length ≤ 4000 := by
  simp only [heapB, Bool.and_eq_true, decide_eq_true_eq] at hb; exact hb.1
theorem heap_root {h : List Ce} {r : List Vl} (hb : heapB h r = true) {v : Vl} (hv : v ∈ r) (hk : v.kind = 6) : 0 ≤ v.n ∧ v.n < h.length := by
  simp only [heapB, Bool.and_eq_true, decide_eq_true_eq] at hb
  have := val_cell (List.all_eq_true.1 hb.2.2 v hv) hk
  exact ⟨this.1, this.2.1⟩
theorem heap_a {h : List Ce} {r : List Vl} (hb : heapB h r = true) {i : Nat} (hi : i < h.length) (hk : h[i].a.kind = 6) : 0 ≤ h[i].a.n ∧ h[i].a.n < h.length := by
  simp only [heapB, Bool.and_eq_true, decide_eq_true_eq] at hb
  have := List.all_eq_true.1 hb.2.1 _ (List.getElem_mem hi)
  simp only [cellB, Bool.and_eq_true] at this
  have := val_cell this.2.2.1 hk
  exact ⟨this.1, this.2.1⟩
theorem heap_b {h : List Ce} {r : List Vl} (hb : heapB h r = true) {i : Nat} (hi : i < h.length) (hk : h[i].b.kind = 6) : 0 ≤ h[i].b.n ∧ h[i].b.n < h.length := by
  simp only [heapB, Bool.and_eq_true, decide_eq_true_eq] at hb
  have := List.all_eq_true.1 hb.2.1 _ (List.getElem_mem hi)
  simp only [cellB, Bool.and_eq_true] at this
  have hB := this.2.2.2.1
  unfold cellBB at hB
  split at hB
  · have := val_cell hB hk; exact ⟨this.1, this.2.1⟩
  · simp only [noneB, Bool.and_eq_true, decide_eq_true_eq] at hB; omega
end Go.Proofs.YtdhpmblhejcehaaDoor
