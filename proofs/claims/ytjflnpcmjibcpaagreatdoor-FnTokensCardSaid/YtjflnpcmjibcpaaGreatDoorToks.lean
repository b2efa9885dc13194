/- Rows of tokens that a call makes and appends to. -/
import Derived.Test.YtjflnpcmjibcpaaGreatDoorLexMath
import Derived.Test.YtjflnpcmjibcpaaGreatDoorOwn
import Derived.WalkKit
namespace Go.Proofs.YtjflnpcmjibcpaaGreatDoor
set_option linter.unusedVariables false
open Go.RowKit

/-- What is owned stays owned where nothing below the heap's size has turned. -/
theorem owns_below {B e n size : Nat} {wr w1 : World} {v : Value} {xs : List Value} (h : wr.ownsRow B e size v n xs) (hb : Below wr.heap.size wr w1) : w1.ownsRow B e size v n xs := by
  obtain ⟨h0, h1 | ⟨g, cap, cur, rfl, h1, h2, h3, h4, h5, h6⟩⟩ := h
  · exact ⟨h0, .inl h1⟩
  · refine ⟨h0, .inr ⟨g, cap, cur, rfl, h1, ?_, h3, h4, h5, h6⟩⟩
    rw [hb.block g (by have := (Array.getElem?_eq_some_iff.1 h2).1; exact this)]; exact h2
/-- Behind an append to a row of elements of several cells. -/
theorem owns_app {B B0 e n size : Nat} {w wr w1 : World} {v : Value} {xs : List Value} (hown : wr.ownsRow B e size v n xs) (hbel : Below B0 w wr) (h0 : B0 ≤ B) (hBs : B ≤ wr.heap.size)
    (hgrow : wr.grownBy w1 v.ownBlock) : Below B0 w w1 ∧ B ≤ w1.heap.size := by
  refine ⟨hbel.grown hgrow (by omega) (fun k hk => by have := (hown.lt k hk).1; omega), ?_⟩
  have := hgrow.size; omega
/-- The cells of a token, of tokens. -/
def tkC (t : Tk) : List Value := [.int .i64 t.k, .int .i64 t.n, .string (bs t.s), .int .i64 ((t.at_ : Nat) : Int)]
def tc (l : List Tk) : List Value := l.flatMap tkC
theorem tc_length (l : List Tk) : (tc l).length = l.length * 4 := by
  induction l with
  | nil => rfl
  | cons t l ih => simp only [tc, List.flatMap_cons, List.length_append, List.length_cons] at *; rw [ih]; simp [tkC]; omega
theorem tc_snoc (l : List Tk) (t : Tk) : tc (l ++ [t]) = tc l ++ tkC t := by simp [tc]
theorem tkC_one (t : Tk) : ∀ u ∈ tkC t, u.oneCell' = true := by
  intro u hu; simp only [tkC, List.mem_cons, List.not_mem_nil, or_false] at hu; rcases hu with rfl | rfl | rfl | rfl <;> rfl
theorem owns_tok {B e : Nat} {w1 : World} {v' : Value} {l : List Tk} {t : Tk} (h : w1.ownsRow B e 4 v' (l.length + 1) (tc l ++ tkC t)) : w1.ownsRow B e 4 v' (l ++ [t]).length (tc (l ++ [t])) := by
  rw [tc_snoc, List.length_append]; exact h
theorem new_cells_at (w : World) (n : Nat) (hn : n = w.heap.size) (C : Array Value) (T : TypeId) (news : List Value) (h : C.toList = news) : ∀ j u, news[j]? = some u → (w.alloc (.cells C T)).cell? ((⟨n, 0, none⟩ : Addr).add j) = some u := by
  subst hn; exact new_cells w C T news h
end Go.Proofs.YtjflnpcmjibcpaaGreatDoor
