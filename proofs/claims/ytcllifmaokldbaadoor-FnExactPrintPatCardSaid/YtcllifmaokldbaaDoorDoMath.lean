/- Plain mathematics of valid values. -/
import Derived.Test.YtcllifmaokldbaaDoorOkIMath
import Derived.Test.YtcllifmaokldbaaDoorNumMath
namespace Go.Proofs.YtcllifmaokldbaaDoor
set_option linter.unusedVariables false
open Go.RowKit

/-- A value's node, as a pattern's. -/
def toPN (x : DN) : PN := ⟨x.kind, x.n, x.s, x.kids⟩
/-- A node of a value by itself. -/
def dnodeB (p : Bool) (kind n : Int) (s : ByteArray) (m : Int) : Bool :=
  if kind = 6 then decide (n = 0) && (decide (s.toList = []) && decide (m = 0))
  else if kind = 2 then decide (n = 0) && decide (m = 0)
  else if kind = 3 then decide (W n = n) && (decide (s.toList = []) && decide (m = 0))
  else if kind = 4 then decide (n = 0) && conOkB s m p
  else if kind = 5 then decide (n = 0) && (decide (s.toList = []) && decide (m = 2))
  else false
def isDNB (x : PN) : Bool := dnodeB true x.kind x.n x.s x.kids.length
def rightDB (q : List PN) (x : PN) : Bool := isDNB x && (!isConsB x || decide (firstPK q x.kids = 5))
theorem dnode_p (p : Bool) (k n : Int) (s : ByteArray) (m : Int) : dnodeB p k n s m = (dnodeB true k n s m && (!(decide (k = 4) && decide (s.toList = [58, 58])) || p)) := by
  unfold dnodeB
  by_cases h4 : k = 4
  · subst h4
    rw [if_neg (by decide), if_neg (by decide), if_neg (by decide), if_pos rfl, if_neg (by decide), if_neg (by decide), if_neg (by decide), if_pos rfl, conOk_p s m p]
    simp [Bool.and_assoc]
  · rw [if_neg h4]
    simp [h4]
theorem isDN_cons (x : PN) (h : isDNB x = true) (hc : isConsB x = true) : x.kids.length = 1 := by
  simp only [isConsB, Bool.and_eq_true, decide_eq_true_eq] at hc
  obtain ⟨h4, hs⟩ := hc
  unfold isDNB dnodeB at h
  rw [h4] at h
  rw [if_neg (by decide), if_neg (by decide), if_neg (by decide), if_pos rfl] at h
  unfold conOkB at h
  rw [if_pos hs] at h
  simp at h
  omega
theorem dnB_right (q : List PN) (x : PN) (hk : ∀ k ∈ x.kids, 0 ≤ k ∧ k < (q.length : Int)) : dnodeB (pairB q x.kids) x.kind x.n x.s x.kids.length = rightDB q x := by
  unfold rightDB isDNB
  rw [dnode_p]
  by_cases hc : isConsB x = true
  · by_cases h : isDNB x = true
    · have h1 := isDN_cons x h hc
      obtain ⟨k, hkk⟩ : ∃ k, x.kids = [k] := List.length_eq_one_iff.1 h1
      have := hk k (by simp [hkk])
      rw [show (decide (x.kind = 4) && decide (x.s.toList = [58, 58])) = isConsB x from rfl, hc, hkk]
      have hg := List.getElem?_eq_getElem (show k.toNat < q.length by omega)
      rw [show pairB q [k] = decide (firstPK q [k] = 5) from by simp [pairB, firstPK, hg, this.1]]
    · have h' : dnodeB true x.kind x.n x.s x.kids.length = false := by simpa [isDNB] using h
      rw [h']; simp
  · have hc' : (decide (x.kind = 4) && decide (x.s.toList = [58, 58])) = false := by simpa [isConsB] using hc
    rw [show isConsB x = false from by simpa using hc, hc']
    simp
/-- A valid value. -/
def dOkB (l : List DN) : Bool := preB (l.map DN.kids) && (l.map toPN).all (rightDB (l.map toPN))
theorem kids_toPN (l : List DN) : (l.map toPN).map PN.kids = l.map DN.kids := by
  rw [List.map_map]; rfl
def DOkP (l : List DN) : Prop := 1 ≤ l.length ∧ l.length ≤ 600 ∧ (∀ i (h : i < l.length), dnodeB (pairB (l.map toPN) l[i].kids) l[i].kind l[i].n l[i].s l[i].kids.length = true) ∧ pendF (l.length + 1) (l.map DN.kids) 0 = l.length
theorem dOk_iff (l : List DN) : dOkB l = true ↔ DOkP l := by
  unfold dOkB DOkP
  simp only [Bool.and_eq_true]
  rw [preB_iff]
  simp only [List.length_map]
  constructor
  · rintro ⟨⟨h1, h2, h4⟩, h5⟩
    have hp : preB ((l.map toPN).map PN.kids) = true := by rw [kids_toPN]; exact (preB_iff _).2 ⟨by simpa using h1, by simpa using h2, by simpa using h4⟩
    refine ⟨h1, h2, fun i hi => ?_, h4⟩
    have := List.all_eq_true.1 h5 (toPN l[i]) (List.mem_map_of_mem (List.getElem_mem hi))
    rw [← dnB_right _ _ (pat_kids _ hp _ (List.mem_map_of_mem (List.getElem_mem hi)))] at this
    exact this
  · rintro ⟨h1, h2, h3, h4⟩
    have hp : preB ((l.map toPN).map PN.kids) = true := by rw [kids_toPN]; exact (preB_iff _).2 ⟨by simpa using h1, by simpa using h2, by simpa using h4⟩
    refine ⟨⟨h1, h2, h4⟩, List.all_eq_true.2 fun x hx => ?_⟩
    obtain ⟨y, hy, rfl⟩ := List.mem_map.1 hx
    obtain ⟨i, hi, rfl⟩ := List.getElem_of_mem hy
    rw [← dnB_right _ _ (pat_kids _ hp _ hx)]
    exact h3 i hi
theorem dOk_no {l : List DN} (h : ¬ DOkP l) : dOkB l = false := by
  cases hb : dOkB l
  · rfl
  · exact absurd ((dOk_iff l).1 hb) h
theorem dOk_end {l : List DN} (h1 : 1 ≤ l.length) (h2 : l.length ≤ 600) (h3 : ∀ i (h : i < l.length), dnodeB (pairB (l.map toPN) l[i].kids) l[i].kind l[i].n l[i].s l[i].kids.length = true) :
    dOkB l = decide (pendF (l.length + 1) (l.map DN.kids) 0 = (l.length : Int)) := by
  by_cases he : pendF (l.length + 1) (l.map DN.kids) 0 = (l.length : Int)
  · rw [(dOk_iff l).2 ⟨h1, h2, h3, he⟩]; simp [he]
  · rw [dOk_no fun h => he h.2.2.2]; simp [he]
/-- The only kid is a pair, asked of the value's nodes. -/
theorem pair_yes (l : List DN) (m : Nat) (h : m < l.length) : pairB (l.map toPN) [(m : Int)] = (l[m].kind == 5) := by
  rw [pairB]; simp [h, toPN]; rw [Bool.eq_iff_iff]; simp
theorem pair_out (l : List DN) (m : Nat) (h : ¬ m < l.length) : pairB (l.map toPN) [(m : Int)] = false := by
  rw [pairB]; simp [List.getElem?_eq_none (Nat.le_of_not_lt h)]
theorem pair_neg (l : List PN) (y : Int) (h : y < 0) : pairB l [y] = false := by rw [pairB]; simp; omega
theorem pair_len (l : List PN) (ks : List Int) (h : ks.length ≠ 1) : pairB l ks = false := by
  match ks, h with
  | [], _ => rfl
  | [y], h => simp at h
  | _ :: _ :: _, _ => rfl
end Go.Proofs.YtcllifmaokldbaaDoor
