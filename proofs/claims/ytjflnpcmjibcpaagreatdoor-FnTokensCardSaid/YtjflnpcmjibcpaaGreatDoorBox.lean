/- A block of four cells (a named result of a struct type): what it holds behind a call, and behind the stores of a return. -/
import Derived.WalkKit
import Derived.Below
import Derived.Lib.SmallJoins
namespace Go.Proofs.YtjflnpcmjibcpaaGreatDoor
set_option linter.unusedVariables false
open Go.RowKit

/-- The block of a named result, behind a call. -/
theorem resBox {w w1 : World} {c0 c1 c2 c3 : Value} {T : TypeId} (hb : Below (w.alloc (.cells #[c0, c1, c2, c3] T)).heap.size (w.alloc (.cells #[c0, c1, c2, c3] T)) w1) :
    (w1.cell? ⟨w.heap.size, 0, none⟩ = some c0 ∧ w1.cell? ⟨w.heap.size, 1, none⟩ = some c1 ∧ w1.cell? ⟨w.heap.size, 2, none⟩ = some c2 ∧ w1.cell? ⟨w.heap.size, 3, none⟩ = some c3) ∧
    (∀ j, w1.frozen? ⟨w.heap.size, j, none⟩ = false) ∧ w.heap.size < w1.heap.size := by
  have hz := hb.size
  simp at hz
  refine ⟨⟨?_, ?_, ?_, ?_⟩, fun j => ?_, by omega⟩
  · rw [hb.cell (by simp), World.cell?_alloc_new]; rfl
  · rw [hb.cell (by simp), World.cell?_alloc_new]; rfl
  · rw [hb.cell (by simp), World.cell?_alloc_new]; rfl
  · rw [hb.cell (by simp), World.cell?_alloc_new]; rfl
  · rw [hb.frozen (by simp)]; simp
theorem set_other {w : World} {n i j : Nat} {v u : Value} (hij : i ≠ j) (h : w.cell? ⟨n, j, none⟩ = some u) : (w.setCell ⟨n, i, none⟩ v).cell? ⟨n, j, none⟩ = some u := by
  rw [World.cell?_setCell_other _ _ _ _ (fun e => hij (by cases e; rfl))]; exact h
theorem put4 {w1 : World} {n : Nat} {c0 c1 c2 c3 : Value} (h0 : w1.cell? ⟨n, 0, none⟩ = some c0) (h1 : w1.cell? ⟨n, 1, none⟩ = some c1) (h2 : w1.cell? ⟨n, 2, none⟩ = some c2) (h3 : w1.cell? ⟨n, 3, none⟩ = some c3) (v0 v1 v2 v3 : Value) :
    let w2 := (((w1.setCell ⟨n, 0, none⟩ v0).setCell ⟨n, 1, none⟩ v1).setCell ⟨n, 2, none⟩ v2).setCell ⟨n, 3, none⟩ v3
    w2.cell? ⟨n, 0, none⟩ = some v0 ∧ w2.cell? ⟨n, 1, none⟩ = some v1 ∧ w2.cell? ⟨n, 2, none⟩ = some v2 ∧ w2.cell? ⟨n, 3, none⟩ = some v3 := by
  refine ⟨?_, ?_, ?_, ?_⟩
  · exact set_other (by decide) (set_other (by decide) (set_other (by decide) (World.cell?_setCell_same _ _ _ h0)))
  · exact set_other (by decide) (set_other (by decide) (World.cell?_setCell_same _ _ _ (set_other (by decide) h1)))
  · exact set_other (by decide) (World.cell?_setCell_same _ _ _ (set_other (by decide) (set_other (by decide) h2)))
  · exact World.cell?_setCell_same _ _ _ (set_other (by decide) (set_other (by decide) (set_other (by decide) h3)))
theorem below_put4 {B n : Nat} {w w1 : World} (h : Below B w w1) (hn : B ≤ n) (v0 v1 v2 v3 : Value) :
    Below B w ((((w1.setCell ⟨n, 0, none⟩ v0).setCell ⟨n, 1, none⟩ v1).setCell ⟨n, 2, none⟩ v2).setCell ⟨n, 3, none⟩ v3) :=
  (((h.setCell hn _).setCell hn _).setCell hn _).setCell hn _
/-- A block of four cells, kept: its cells and marks. -/
structure Box (w : World) (n : Nat) (c0 c1 c2 c3 : Value) : Prop where
  e0 : w.cell? ⟨n, 0, none⟩ = some c0
  e1 : w.cell? ⟨n, 1, none⟩ = some c1
  e2 : w.cell? ⟨n, 2, none⟩ = some c2
  e3 : w.cell? ⟨n, 3, none⟩ = some c3
  fr : ∀ j, w.frozen? ⟨n, j, none⟩ = false
  lt : n < w.heap.size
theorem Box.new (w : World) (n : Nat) (hn : n = w.heap.size) (c0 c1 c2 c3 : Value) (T : TypeId) : Box (w.alloc (.cells #[c0, c1, c2, c3] T)) n c0 c1 c2 c3 := by
  subst hn
  refine ⟨?_, ?_, ?_, ?_, fun j => by simp, by simp⟩ <;> (rw [World.cell?_alloc_new]; rfl)
theorem Box.below {w w1 : World} {n B : Nat} {c0 c1 c2 c3 : Value} (h : Box w n c0 c1 c2 c3) (hb : Below B w w1) (hn : n < B) : Box w1 n c0 c1 c2 c3 :=
  ⟨by rw [hb.cell hn]; exact h.e0, by rw [hb.cell hn]; exact h.e1, by rw [hb.cell hn]; exact h.e2, by rw [hb.cell hn]; exact h.e3, fun j => by rw [hb.frozen hn]; exact h.fr j, Nat.lt_of_lt_of_le h.lt hb.size⟩
theorem Box.alloc {w : World} {n : Nat} {c0 c1 c2 c3 : Value} (h : Box w n c0 c1 c2 c3) (o : Obj) : Box (w.alloc o) n c0 c1 c2 c3 :=
  h.below ((Below.refl _ _).alloc (Nat.le_refl _) o) h.lt
theorem Box.other {w : World} {n m i : Nat} {c0 c1 c2 c3 : Value} (h : Box w n c0 c1 c2 c3) (hm : m ≠ n) (v : Value) : Box (w.setCell ⟨m, i, none⟩ v) n c0 c1 c2 c3 := by
  have ho : ∀ j, (w.setCell ⟨m, i, none⟩ v).cell? ⟨n, j, none⟩ = w.cell? ⟨n, j, none⟩ := fun j => World.cell?_setCell_other _ _ _ _ (fun e => hm (by cases e; rfl))
  refine ⟨by rw [ho]; exact h.e0, by rw [ho]; exact h.e1, by rw [ho]; exact h.e2, by rw [ho]; exact h.e3, fun j => by simp [h.fr j], by simpa [World.setCell] using h.lt⟩
theorem Box.put0 {w : World} {n : Nat} {c0 c1 c2 c3 : Value} (h : Box w n c0 c1 c2 c3) (v : Value) : Box (w.setCell ⟨n, 0, none⟩ v) n v c1 c2 c3 :=
  ⟨World.cell?_setCell_same _ _ _ h.e0, set_other (by decide) h.e1, set_other (by decide) h.e2, set_other (by decide) h.e3, fun j => by simp [h.fr j], by simpa [World.setCell] using h.lt⟩
theorem Box.put1 {w : World} {n : Nat} {c0 c1 c2 c3 : Value} (h : Box w n c0 c1 c2 c3) (v : Value) : Box (w.setCell ⟨n, 1, none⟩ v) n c0 v c2 c3 :=
  ⟨set_other (by decide) h.e0, World.cell?_setCell_same _ _ _ h.e1, set_other (by decide) h.e2, set_other (by decide) h.e3, fun j => by simp [h.fr j], by simpa [World.setCell] using h.lt⟩
theorem Box.put2 {w : World} {n : Nat} {c0 c1 c2 c3 : Value} (h : Box w n c0 c1 c2 c3) (v : Value) : Box (w.setCell ⟨n, 2, none⟩ v) n c0 c1 v c3 :=
  ⟨set_other (by decide) h.e0, set_other (by decide) h.e1, World.cell?_setCell_same _ _ _ h.e2, set_other (by decide) h.e3, fun j => by simp [h.fr j], by simpa [World.setCell] using h.lt⟩
theorem Box.put3 {w : World} {n : Nat} {c0 c1 c2 c3 : Value} (h : Box w n c0 c1 c2 c3) (v : Value) : Box (w.setCell ⟨n, 3, none⟩ v) n c0 c1 c2 v :=
  ⟨set_other (by decide) h.e0, set_other (by decide) h.e1, set_other (by decide) h.e2, World.cell?_setCell_same _ _ _ h.e3, fun j => by simp [h.fr j], by simpa [World.setCell] using h.lt⟩
theorem Box.put {w : World} {n : Nat} {c0 c1 c2 c3 : Value} (h : Box w n c0 c1 c2 c3) (v0 v1 v2 v3 : Value) :
    Box ((((w.setCell ⟨n, 0, none⟩ v0).setCell ⟨n, 1, none⟩ v1).setCell ⟨n, 2, none⟩ v2).setCell ⟨n, 3, none⟩ v3) n v0 v1 v2 v3 :=
  (((h.put0 v0).put1 v1).put2 v2).put3 v3
end Go.Proofs.YtjflnpcmjibcpaaGreatDoor
