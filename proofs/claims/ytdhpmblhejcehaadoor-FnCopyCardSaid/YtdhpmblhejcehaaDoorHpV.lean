
/- What the model marks in a heap. -/
import Derived.Test.YtdhpmblhejcehaaDoorHpU
import Derived.Test.YtdhpmblhejcehaaDoorOwn
import Derived.Deep.Cut
namespace Go.Proofs.YtdhpmblhejcehaaDoor
set_option linter.unusedVariables false
set_option maxRecDepth 100000
open Go.ChangeShapes Go.WideShapes Go.ChangeAt Go.RowKit

/-- A row of marks, in a block made since world W. -/
structure SeenIs (W : World) (g : Nat) (S : List Bool) (w : World) : Prop where
  cell : ∀ i (h : i < S.length), w.cell? ⟨g, i, none⟩ = some (.bool S[i])
  fr : ∀ i, i < S.length → w.frozen? ⟨g, i, none⟩ = false
  lt : g < w.heap.size
  lo : W.heap.size ≤ g
  bel : Below W.heap.size W w
theorem SeenIs.below {W w w' : World} {g : Nat} {S : List Bool} (h : SeenIs W g S w) (hb : Below w.heap.size w w') : SeenIs W g S w' :=
  ⟨fun i hi => (hb.cell (p := ⟨g, i, none⟩) h.lt).trans (h.cell i hi), fun i hi => (hb.frozen (p := ⟨g, i, none⟩) h.lt).trans (h.fr i hi), Nat.lt_of_lt_of_le h.lt hb.size, h.lo, below_tr h.bel hb⟩
theorem SeenIs.set {W w : World} {g : Nat} {S : List Bool} (h : SeenIs W g S w) (i : Nat) (hi : i < S.length) : SeenIs W g (S.set i true) (w.setCell ⟨g, i, none⟩ (.bool true)) := by
  refine ⟨fun j hj => ?_, fun j hj => ?_, by rw [setCell_size]; exact h.lt, h.lo, h.bel.setCell (by exact h.lo) _⟩
  · have hj' : j < S.length := by rwa [List.length_set] at hj
    by_cases he : j = i
    · subst he
      rw [List.getElem_set_self]
      exact World.cell?_setCell_same _ _ _ (h.cell j hj')
    · rw [List.getElem_set_ne (by omega)]
      exact (World.cell?_setCell_other _ _ _ _ (fun e => he (by cases e; rfl))).trans (h.cell j hj')
  · have hj' : j < S.length := by rwa [List.length_set] at hj
    exact (World.frozen?_setCell _ _ _ _).trans (h.fr j hj')
/-- The marks as the memory holds them. -/
def seenOf (w : World) (g n : Nat) : List Bool := (List.range n).map fun i => match w.cell? ⟨g, i, none⟩ with | some (.bool b) => b | _ => false
theorem SeenIs.of {W w : World} {g : Nat} {S : List Bool} (h : SeenIs W g S w) {n : Nat} (hn : S.length = n) : seenOf w g n = S := by
  subst hn
  refine List.ext_getElem (by simp [seenOf]) fun i h1 h2 => ?_
  simp only [seenOf, List.getElem_map, List.getElem_range, h.cell i h2]
/-- How far the passes have come. -/
def markM (g n : Nat) (u : Value) (w : World) : Nat := match u with | .bool true => unseen (seenOf w g n) + 1 | _ => 0
theorem hp_al (w : World) (O : Obj) {n : Nat} (hn : n = w.heap.size) : (w.alloc O).heap[n]? = some O := by
  subst hn
  show (w.heap.push O)[w.heap.size]? = some O
  exact Array.getElem?_push_size
theorem hp_cell {w : World} {b : Nat} {cs : Array Value} {T : TypeId} (h : w.heap[b]? = some (.cells cs T (0, 0))) (i : Nat) : w.cell? ⟨b, i, none⟩ = cs[i]? := by simp [World.cell?, h]
theorem hp_lt {w : World} {b : Nat} {O : Obj} (h : w.heap[b]? = some O) : b < w.heap.size := (Array.getElem?_eq_some_iff.1 h).1
theorem hp_was {w : World} {b : Nat} {O : Obj} (h : w.heap[b]? = some O) (O' : Obj) : (w.alloc O').heap[b]? = some O := (((Below.refl w.heap.size w).alloc (Nat.le_refl _) O').block b (hp_lt h)).trans h
theorem hp_set {w : World} {b g o : Nat} {O : Obj} (h : w.heap[b]? = some O) (hne : b ≠ g) (u : Value) : (w.setCell ⟨g, o, none⟩ u).heap[b]? = some O := (Below.heap_setCell _ _ _ _ hne).trans h
/-- All roots are marked. -/
def rootsIn (r : List Vl) (S : List Bool) : Prop := ∀ v ∈ r, v.kind = 6 → S[v.n.toNat]? = some true
theorem rootsIn.set {r : List Vl} {S : List Bool} (h : rootsIn r S) (i : Nat) : rootsIn r (S.set i true) := fun v hv hk => by
  have := h v hv hk
  by_cases he : i = v.n.toNat
  · subst he
    rw [List.getElem?_set_self (List.getElem?_eq_some_iff.1 this).1]
  · rw [List.getElem?_set_ne he]; exact this
theorem Marks.set {h : List Ce} {r : List Vl} {S : List Bool} (hm : Marks h r S) {i : Nat} (hi : Rch h r i) : Marks h r (S.set i true) :=
  ⟨by rw [List.length_set]; exact hm.len, fun j hj => by
    by_cases he : i = j
    · subst he; exact hi
    · rw [List.getElem?_set_ne he] at hj; exact hm.only j hj⟩
/-- A pass over the cells: from the marks S0 to S; 'again' tells whether there are more. -/
structure Pass (h : List Ce) (r : List Vl) (S0 S : List Bool) (again : Bool) : Prop where
  mks : Marks h r S
  rt : rootsIn r S
  more : again = true → unseen S < unseen S0
  none_ : again = false → S = S0
theorem Pass.set {h : List Ce} {r : List Vl} {S0 S : List Bool} {again : Bool} (p : Pass h r S0 S again) {i : Nat} (hi : Rch h r i) (hf : S[i]? = some false) : Pass h r S0 (S.set i true) true := by
  refine ⟨p.mks.set hi, p.rt.set i, fun _ => ?_, fun e => by cases e⟩
  have := unseen_set hf
  cases ha : again
  · have := p.none_ ha; subst this; omega
  · have := p.more ha; omega
theorem info_bool : (Tryd.prog.info? 4).map (fun i => (i.zero, i.size, i.bytes)) = some (some (.bool false), 1, 1) := by kernel_rfl
end Go.Proofs.YtdhpmblhejcehaaDoor
