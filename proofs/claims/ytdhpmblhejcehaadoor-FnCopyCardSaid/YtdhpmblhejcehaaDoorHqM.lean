/- Plain mathematics of a search with a stack: marks, and what is still open. -/
import Derived.Test.YtdhpmblhejcehaaDoorHpMath
namespace Go.Proofs.YtdhpmblhejcehaaDoor
set_option linter.unusedVariables false
open Go.RowKit

/-- A search under way: the marks, what is still open. -/
structure Dfs (h : List Ce) (r : List Vl) (S : List Bool) (o : List Vl) : Prop where
  mks : Marks h r S
  rch : ∀ v ∈ o, v.kind = 6 → Rch h r v.n.toNat ∧ 0 ≤ v.n ∧ v.n < h.length
  rt : ∀ v ∈ r, v.kind = 6 → S[v.n.toNat]? = some true ∨ v ∈ o
  st : ∀ j (hj : j < h.length), S[j]? = some true → (h[j].a.kind = 6 → S[h[j].a.n.toNat]? = some true ∨ h[j].a ∈ o) ∧ (h[j].b.kind = 6 → S[h[j].b.n.toNat]? = some true ∨ h[j].b ∈ o)
theorem dfs_start {h : List Ce} {r : List Vl} (hb : heapB h r = true) : Dfs h r (List.replicate h.length false) r := by
  have hno : ∀ i : Nat, (List.replicate h.length false)[i]? ≠ some true := fun i e => by
    obtain ⟨hl, he⟩ := List.getElem?_eq_some_iff.1 e
    simp at he
  refine ⟨⟨by simp, fun i e => absurd e (hno i)⟩, fun v hv hk => ?_, fun v hv _ => .inr hv, fun j hj e => absurd e (hno j)⟩
  obtain ⟨h0, h1⟩ := heap_root hb hv hk
  exact ⟨Rch.root v hv hk, h0, h1⟩
theorem dfs_skip {h : List Ce} {r : List Vl} {S : List Bool} {o : List Vl} {v : Vl} (hd : Dfs h r S (o ++ [v])) (hv : v.kind = 6 → S[v.n.toNat]? = some true) : Dfs h r S o := by
  have hp : ∀ u : Vl, u.kind = 6 → (S[u.n.toNat]? = some true ∨ u ∈ o ++ [v]) → (S[u.n.toNat]? = some true ∨ u ∈ o) := by
    intro u hk hu
    rcases hu with hu | hu
    · exact .inl hu
    · rcases List.mem_append.1 hu with hu | hu
      · exact .inr hu
      · rw [List.mem_singleton] at hu
        subst hu
        exact .inl (hv hk)
  exact ⟨hd.mks, fun u hu => hd.rch u (List.mem_append_left _ hu), fun u hu hk => hp u hk (hd.rt u hu hk), fun j hj e => ⟨fun hk => hp _ hk ((hd.st j hj e).1 hk), fun hk => hp _ hk ((hd.st j hj e).2 hk)⟩⟩
theorem set_true {S : List Bool} {i j : Nat} (h : S[j]? = some true) : (S.set i true)[j]? = some true := by
  by_cases he : i = j
  · subst he
    exact List.getElem?_set_self (List.getElem?_eq_some_iff.1 h).1
  · rw [List.getElem?_set_ne he]; exact h
theorem dfs_mark {h : List Ce} {r : List Vl} {S : List Bool} {o : List Vl} {v : Vl} (hb : heapB h r = true) (hd : Dfs h r S (o ++ [v])) (hk : v.kind = 6) (hl : v.n.toNat < h.length) :
    Dfs h r (S.set v.n.toNat true) (o ++ [h[v.n.toNat].a, h[v.n.toNat].b]) := by
  have hR : Rch h r v.n.toNat := (hd.rch v (by simp) hk).1
  have hS : v.n.toNat < S.length := by rw [hd.mks.len]; exact hl
  have hp : ∀ u : Vl, (S[u.n.toNat]? = some true ∨ u ∈ o ++ [v]) → ((S.set v.n.toNat true)[u.n.toNat]? = some true ∨ u ∈ o ++ [h[v.n.toNat].a, h[v.n.toNat].b]) := by
    intro u hu
    rcases hu with hu | hu
    · exact .inl (set_true hu)
    · rcases List.mem_append.1 hu with hu | hu
      · exact .inr (List.mem_append_left _ hu)
      · rw [List.mem_singleton] at hu
        subst hu
        exact .inl (List.getElem?_set_self hS)
  refine ⟨⟨by rw [List.length_set]; exact hd.mks.len, fun i e => ?_⟩, fun u hu hk6 => ?_, fun u hu hk6 => hp u (hd.rt u hu hk6), fun j hj e => ?_⟩
  · by_cases he : v.n.toNat = i
    · rw [← he]; exact hR
    · rw [List.getElem?_set_ne he] at e; exact hd.mks.only i e
  · rcases List.mem_append.1 hu with hu | hu
    · exact hd.rch u (List.mem_append_left _ hu) hk6
    · simp only [List.mem_cons, List.not_mem_nil, or_false] at hu
      rcases hu with rfl | rfl
      · exact ⟨Rch.byA _ hR hl hk6, heap_a hb hl hk6⟩
      · exact ⟨Rch.byB _ hR hl hk6, heap_b hb hl hk6⟩
  · by_cases he : v.n.toNat = j
    · subst he
      exact ⟨fun _ => .inr (by simp), fun _ => .inr (by simp)⟩
    · rw [List.getElem?_set_ne he] at e
      exact ⟨fun hk6 => hp _ ((hd.st j hj e).1 hk6), fun hk6 => hp _ ((hd.st j hj e).2 hk6)⟩
theorem dfs_end {h : List Ce} {r : List Vl} {S : List Bool} (hb : heapB h r = true) (hd : Dfs h r S []) : ∀ i, i < h.length → S[i]? = some (rchB h r i) := by
  have h0 : ∀ (P : Prop) (u : Vl), P ∨ u ∈ ([] : List Vl) → P := fun P u hu => hu.resolve_right (by simp)
  exact marks_all hb hd.mks (fun v hv hk => h0 _ _ (hd.rt v hv hk)) (fun i hi hl e => ⟨fun hk => h0 _ _ ((hd.st i hl e).1 hk), fun hk => h0 _ _ ((hd.st i hl e).2 hk)⟩)
theorem unseen_le (S : List Bool) : unseen S ≤ S.length := List.countP_le_length
end Go.Proofs.YtdhpmblhejcehaaDoor
