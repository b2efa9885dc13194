/- Rows that a call makes and appends to: small lemmas on what is owned, and on what lies below. -/
import Derived.WalkKit
import Derived.Lib.Hide
namespace Go.Proofs.YtdhpmblhejcehaaDoor
set_option linter.unusedVariables false
open Go.RowKit

theorem own_app {B B0 e n : Nat} {w wr w1 : World} {v : Value} {xs : List Value} {C : Array Value} {T : TypeId} (hown : wr.ownsRow B e 1 v n xs) (hbel : Below B0 w wr) (h0 : B0 ≤ B) (hBs : B ≤ wr.heap.size)
    (hgrow : (wr.alloc (.cells C T)).grownBy w1 v.ownBlock) : Below B0 w w1 ∧ B ≤ w1.heap.size := by
  have hb2 : Below B0 w (wr.alloc (.cells C T)) := hbel.alloc (by omega) _
  refine ⟨hb2.grown hgrow (by simp; omega) (fun k hk => by have := (hown.lt k hk).1; omega), ?_⟩
  have := hgrow.size; simp at this; omega
theorem own_app0 {B B0 e n : Nat} {w wr w1 : World} {v : Value} {xs : List Value} (hown : wr.ownsRow B e 1 v n xs) (hbel : Below B0 w wr) (h0 : B0 ≤ B) (hBs : B ≤ wr.heap.size)
    (hgrow : wr.grownBy w1 v.ownBlock) : Below B0 w w1 ∧ B ≤ w1.heap.size := by
  refine ⟨hbel.grown hgrow (by omega) (fun k hk => by have := (hown.lt k hk).1; omega), ?_⟩
  have := hgrow.size; omega
theorem new_cells (w : World) (C : Array Value) (T : TypeId) (news : List Value) (h : C.toList = news) : ∀ j u, news[j]? = some u → (w.alloc (.cells C T)).cell? ((⟨w.heap.size, 0, none⟩ : Addr).add j) = some u := by
  intro j u hj
  subst h
  have hp : (⟨w.heap.size, 0, none⟩ : Addr).add j = ⟨w.heap.size, j, none⟩ := by unfold Addr.add; split <;> simp_all
  rw [hp, World.cell?_alloc_new]
  simpa using hj
/-- Cells of bytes. -/
def bc (l : List UInt8) : List Value := l.map fun b => Value.int .u8 (b.toNat : Int)
theorem bc_length (l : List UInt8) : (bc l).length = l.length := by simp [bc]
theorem bc_app (l m : List UInt8) : bc (l ++ m) = bc l ++ bc m := by simp [bc]
theorem bc_one (l : List UInt8) : ∀ u ∈ bc l, u.oneCell' = true := by
  intro u hu; simp only [bc, List.mem_map] at hu; obtain ⟨b, _, rfl⟩ := hu; rfl
/-- The row behind an append of bytes. -/
theorem own_bytes {B e m : Nat} {w1 : World} {v' : Value} {l l' : List UInt8} {n : Nat} {xs news : List Value} (hn : n = l.length) (hxs : xs = bc l) (hnews : news = bc l') (hm : m = l'.length) (hown' : w1.ownsRow B e 1 v' (n + m) (xs ++ news)) :
    w1.ownsRow B e 1 v' (l ++ l').length (bc (l ++ l')) := by
  subst hn hxs hnews hm; rw [bc_app, List.length_append]; exact hown'
/-- What is owned and holds something is a slice at the head of a block, whose cells are there. -/
theorem own_shape {B e n : Nat} {w : World} {v : Value} {xs : List Value} (h : w.ownsRow B e 1 v n xs) (hn : 0 < n) :
    ∃ g cap, v = .slice (some ⟨g, 0, none⟩) n cap ∧ B ≤ g ∧ g < w.heap.size ∧ n ≤ cap ∧ (∀ j, j < n → w.cell? ⟨g, j, none⟩ = xs[j]?) ∧ (∀ j, w.frozen? ⟨g, j, none⟩ = false) := by
  have h' := h
  obtain ⟨_, ⟨_, h0⟩ | ⟨g, cap, cur, rfl, h1, h2, h3, h4, h5, h6⟩⟩ := h
  · omega
  · exact ⟨g, cap, rfl, h1, by have := (h'.lt g rfl).2; exact this, h3, fun j hj => h'.cellAt j (by omega), fun j => h'.frozenAt j⟩
theorem add_zero_off (g j : Nat) : (⟨g, 0, none⟩ : Addr).add j = ⟨g, j, none⟩ := by unfold Addr.add; split <;> simp_all
theorem bc_get (l : List UInt8) (j : Nat) (hj : j < l.length) : (bc l)[j]? = some (.int .u8 (l[j].toNat : Int)) := by simp [bc, hj]
/-- What is owned stays owned where nothing below the heap's size has turned. -/
theorem own_below {B e n : Nat} {wr w1 : World} {v : Value} {xs : List Value} (h : wr.ownsRow B e 1 v n xs) (hb : Below wr.heap.size wr w1) : w1.ownsRow B e 1 v n xs := by
  obtain ⟨h0, h1 | ⟨g, cap, cur, rfl, h1, h2, h3, h4, h5, h6⟩⟩ := h
  · exact ⟨h0, .inl h1⟩
  · refine ⟨h0, .inr ⟨g, cap, cur, rfl, h1, ?_, h3, h4, h5, h6⟩⟩
    rw [hb.block g (by have := (Array.getElem?_eq_some_iff.1 h2).1; exact this)]; exact h2
/-- Cells of strings. -/
def sc (l : List ByteArray) : List Value := l.map Value.string
theorem sc_length (l : List ByteArray) : (sc l).length = l.length := by simp [sc]
theorem sc_one (l : List ByteArray) : ∀ u ∈ sc l, u.oneCell' = true := by
  intro u hu; simp only [sc, List.mem_map] at hu; obtain ⟨b, _, rfl⟩ := hu; rfl
theorem own_strs {B e m : Nat} {w1 : World} {v' : Value} {l l' : List ByteArray} {n : Nat} {xs news : List Value} (hn : n = l.length) (hxs : xs = sc l) (hnews : news = sc l') (hm : m = l'.length) (hown' : w1.ownsRow B e 1 v' (n + m) (xs ++ news)) :
    w1.ownsRow B e 1 v' (l ++ l').length (sc (l ++ l')) := by
  subst hn hxs hnews hm
  have : sc (l ++ l') = sc l ++ sc l' := by simp [sc]
  rw [this, List.length_append]; exact hown'
end Go.Proofs.YtdhpmblhejcehaaDoor
